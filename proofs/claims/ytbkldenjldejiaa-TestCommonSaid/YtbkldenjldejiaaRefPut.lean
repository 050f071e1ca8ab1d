/-
  RISING LISTS, as the reference looks for a number, puts one in, takes one out, and makes one of any numbers: by contract.
-/
import Derived.Test.YtbkldenjldejiaaRefMathG
import Derived.BigQuiet
namespace Go.Proofs.Ytbkldenjldejiaa
open Go.ChangeShapes Go.WideShapes Go.ChangeAt Go.RowKit

theorem ints_len (xs : List Nat) : (ints xs).length = xs.length := by simp [ints]
theorem ints_at (xs : List Nat) (k : Nat) (hk : k < xs.length) : (ints xs)[k]? = some (.int .i64 ((xs.getD k 0 : Nat) : Int)) := by simp [ints, hk]
set_option maxHeartbeats 800000 in
theorem refgood_c (n : Int) (w : World) : Calls Try.prog 15 #[.int .i64 n] w fun e w' => e = .returned (.bool (good n)) ∧ w' = w := by
  by_cases h0 : (0 : Int) ≤ n
  · by_cases h1 : n < 65536
    · have hg : good n = true := by simp [good, h0, h1]
      rw [hg]
      go_enter Try.func15, Try.ntmps15
      go_wp2
      go_ret
      exact ⟨by first | rfl | simp, rfl⟩
    · have hg : good n = false := by simp [good]; omega
      rw [hg]
      go_enter Try.func15, Try.ntmps15
      go_wp2
      go_ret
      exact ⟨by first | rfl | simp | (simp; omega), rfl⟩
  · have hg : good n = false := by simp [good]; omega
    rw [hg]
    go_enter Try.func15, Try.ntmps15
    go_wp2
    go_ret
    exact ⟨rfl, rfl⟩
set_option maxHeartbeats 1600000 in
theorem at_c (v : Value) (xs : List Nat) (n : Int) (w : World) (hv : Holds w v (ints xs)) (hl : xs.length ≤ 100000) : Calls Try.prog 11 #[v, .int .i64 n] w fun e w' =>
    ∃ j : Nat, e = .returned (.tuple #[.int .i64 (j : Int), .bool (isAt xs n j)]) ∧ Place xs n j ∧ Below w.heap.size w w' := by
  obtain ⟨a, cap, rfl, hrow⟩ := hv
  rw [ints_len]
  go_enter Try.func11, Try.ntmps11
  go_wp2
  go_loop [6] (fun u => ∃ j : Nat, j ≤ xs.length ∧ u = .int .i64 (j : Int) ∧ Hid (∀ i, i < j → ((xs.getD i 0 : Nat) : Int) < n)) (fun u => xs.length - (intOf u).toNat)
  case atStart => exact ⟨0, Nat.zero_le _, rfl, (fun i hi => absurd hi (Nat.not_lt_zero i) : ∀ i, i < 0 → ((xs.getD i 0 : Nat) : Int) < n)⟩
  case round =>
    obtain ⟨j, hj, rfl, hlow⟩ := hrel
    by_cases hlt : j < xs.length
    · rcases hrow with h0 | ⟨b, off, rfl, hb, hc⟩
      · have := congrArg List.length h0
        rw [ints_len] at this; simp only [List.length_nil] at this; omega
      have hcx : w.cell? ⟨b, off + j, none⟩ = some (.int .i64 ((xs.getD j 0 : Nat) : Int)) := hc j _ (ints_at xs j hlt)
      have hcd : w.drew.cell? ⟨b, off + j, none⟩ = some (.int .i64 ((xs.getD j 0 : Nat) : Int)) := hcx
      have hj1 : (j : Int) < (xs.length : Int) := by omega
      have hpl : ∀ h : n ≤ ((xs.getD j 0 : Nat) : Int), Place xs n j := fun h => ⟨hj, hlow.out, fun _ => h⟩
      have hia : isAt xs n j = decide (((xs.getD j 0 : Nat) : Int) = n) := by simp [isAt, hlt]
      have hnx : (((xs.getD j 0 : Nat) : Int) < n) → Hid (∀ i, i < j + 1 → ((xs.getD i 0 : Nat) : Int) < n) := fun h i hi => by
        rcases Nat.lt_or_ge i j with h1 | h1
        · exact hlow.out i h1
        · obtain rfl : i = j := by omega
          exact h
      clear hc hlow
      generalize ((xs.getD j 0 : Nat) : Int) = x at *
      by_cases hx : x < n
      · have hnx := hnx hx
        clear hpl hia hcd
        go_wp2
        go_round
        case rel => exact ⟨j + 1, by omega, by go_num, hnx⟩
        case measure => simp [intOf]; omega
      · have hpl := hidden (hpl (by omega))
        replace hia := hidden hia
        clear hnx
        by_cases hxe : x = n
        · have hd : decide (x = n) = true := by simp [hxe]
          have hia2 := hidden (hia.out.trans hd)
          have hbe : (x == n) = true := by simp [hxe]
          clear hia hd
          go_wp2
          go_quiet (fail)
          go_wp2
          go_ret2
          exact ⟨j, by rw [hia2.out]; rfl, hpl.out, below_drewN (Below.refl _ _) _⟩
        · have hd : decide (x = n) = false := by simp [hxe]
          have hia2 := hidden (hia.out.trans hd)
          have hbe : (x == n) = false := by simp [hxe]
          clear hia hd
          go_wp2
          go_quiet (fail)
          go_wp2
          go_ret2
          exact ⟨j, by rw [hia2.out]; rfl, hpl.out, below_drewN (Below.refl _ _) _⟩
    · have hj1 : ¬ (j : Int) < (xs.length : Int) := by omega
      have hd : decide ((j : Int) < (xs.length : Int)) = false := by simp; omega
      have hpl : Hid (Place xs n j) := ⟨hj, hlow.out, fun h => absurd h hlt⟩
      have hia2 : Hid (isAt xs n j = false) := by show _ = _; simp [isAt, hlt]
      clear hlow hrow
      go_wp2
      go_quiet (fail)
      go_wp2
      go_ret2
      exact ⟨j, by rw [hia2.out]; rfl, hpl.out, below_drewN (Below.refl _ _) _⟩

/-- A list in memory from B on, which is not nil. -/
def SlS (B : Nat) (w : World) (v : Value) (xs : List Nat) : Prop := ∃ g og cap, v = .slice (some ⟨g, og, none⟩) xs.length cap ∧ B ≤ g ∧ Sl w v (ints xs)
theorem SlS.below {B : Nat} {w w' : World} {v : Value} {xs : List Nat} (h : SlS B w v xs) (hb : Below w.heap.size w w') : SlS B w' v xs := by
  obtain ⟨g, og, cap, h1, h0, h2⟩ := h
  exact ⟨g, og, cap, h1, h0, h2.below hb⟩
theorem SlS.holds {B : Nat} {w : World} {v : Value} {xs : List Nat} (h : SlS B w v xs) : Holds w v (ints xs) := by
  obtain ⟨g, og, cap, h1, h0, h2⟩ := h
  exact h2.holds
theorem SlS.save {B : Nat} {S : List Nat} {w w' : World} {v : Value} {xs : List Nat} (h : SlS B w v xs) (hs : Save S w w') (hS : ∀ k ∈ S, k < B) : SlS B w' v xs := by
  obtain ⟨g, og, cap, rfl, h0, a, cap2, h1, h2, h3, h4, h5⟩ := h
  refine ⟨g, og, cap, rfl, h0, a, cap2, h1, h2, h3, h4, ?_⟩
  have hg : g ∉ S := fun hm => by have := hS g hm; omega
  rcases h5 with h5 | ⟨b, off, h6, h7, h8⟩
  · exact .inl h5
  · subst h6
    simp only [Value.slice.injEq, Option.some.injEq, Addr.mk.injEq] at h1
    obtain ⟨⟨rfl, _, _⟩, _⟩ := h1
    refine .inr ⟨g, off, rfl, Nat.lt_of_lt_of_le h7 hs.size, fun j u hj => ?_⟩
    exact (World.cell?_of_block (hs.block g h7 hg)).trans (h8 j u hj)
theorem ints_cells (xs : List Nat) : ∀ u ∈ ints xs, u.oneCell' = true := fun u hu => by
  simp only [ints, List.mem_map] at hu
  obtain ⟨x, _, rfl⟩ := hu
  rfl
theorem slS_of {w : World} {B B' : Nat} {e : TypeId} {v : Value} {n : Nat} {xs : List Nat} (h : w.ownsRow B e 1 v n (ints xs)) (hv : v ≠ .slice none 0 0) (hB : B' ≤ B) : SlS B' w v xs := by
  obtain ⟨g, c, rfl, hg, _⟩ := own_some h hv
  have hl := h.1
  rw [ints_len, Nat.mul_one] at hl
  exact ⟨g, 0, c, by rw [hl], Nat.le_trans hB hg, sl_of_owns h⟩
set_option maxHeartbeats 3200000 in
set_option maxRecDepth 20000 in
theorem radd_c (v : Value) (p : Nat → Bool) (n : Int) (B : Nat) (w : World) (hBw : B ≤ w.heap.size) (hv : SlS B w v (L p)) : Calls Try.prog 10 #[v, .int .i64 n] w fun e w' =>
    ∃ v', e = .returned v' ∧ SlS B w' v' (L fun k => p k || (good n && k == n.toNat)) ∧ Below w.heap.size w w' := by
  replace hBw := hidden hBw
  obtain ⟨i0, hi, hz0, hz1, hz2⟩ := info_parts infoI
  have hlen := L_len p
  have hat := at_c v (L p) n w hv.holds (by omega)
  have hgd := fun w => refgood_c n w
  by_cases hnew : good n = true ∧ p n.toNat = false
  · obtain ⟨hg, hp⟩ := hnew
    have hg0 := hg
    simp only [good, Bool.and_eq_true, decide_eq_true_eq] at hg
    obtain ⟨m, rfl⟩ := Int.eq_ofNat_of_zero_le hg.1
    simp only [Int.toNat_natCast] at hp ⊢
    rw [hg0] at hgd
    have hia := fun j (h : Place (L p) m j) => (isAt_L h).trans (by rw [hg0, Int.toNat_natCast, hp, Bool.true_and])
    have hput := fun j h => L_put (p := p) (m := m) (j := j) (by omega) hp h
    have heq : (L fun k => p k || (good (m : Int) && k == m)) = L fun k => p k || k == m := L_congr fun k => by rw [hg0]; simp
    rw [heq]
    generalize hq : (L fun k => p k || k == m) = qs at *
    obtain ⟨g, og, cap, rfl, -, hsl⟩ := hv
    clear hg hg0 heq hq
    go_enter Try.func10, Try.ntmps10
    go_wp2_with fail
    refine hat.mono ?_
    rintro e w1 ⟨j, rfl, hpl, hB⟩
    rw [hia j hpl]
    clear hat
    go_wp2_with fail
    refine (hgd _).mono ?_
    rintro e wr ⟨rfl, rfl⟩
    clear hgd
    have hput := hput j hpl
    have hjl := hpl.le
    clear hpl hia
    have hS1 := (hsl.below hB).to' j hjl
    have hS2 := (hsl.below hB).from' j hjl
    have hnco : j ≤ cap := by
      obtain ⟨_, cap', hcc, hnco, -⟩ := hsl
      rw [ints_len] at hnco
      generalize L p = lp at *
      simp only [Value.slice.injEq] at hcc
      omega
    clear hsl
    have hl1 : ((ints (L p)).take j).length = j := by rw [List.length_take, ints_len]; omega
    have hl2 : ((ints (L p)).drop j).length = (L p).length - j := by rw [List.length_drop, ints_len]
    have hc1 : ∀ u ∈ (ints (L p)).take j, u.oneCell' = true := fun u hu => ints_cells _ u (List.mem_of_mem_take hu)
    have hc2 : ∀ u ∈ (ints (L p)).drop j, u.oneCell' = true := fun u hu => ints_cells _ u (List.mem_of_mem_drop hu)
    have hT : Hid (ints qs = (ints (L p)).take j ++ [(.int .i64 (m : Int))] ++ (ints (L p)).drop j) := by
      show _ = _
      rw [← hput]; simp [ints, List.map_take, List.map_drop]
    generalize (ints (L p)).take j = T1 at *
    generalize (ints (L p)).drop j = T2 at *
    generalize (L p).length = N at *
    clear hput hp
    obtain ⟨wq, hwq⟩ : ∃ wq, wq = wr := ⟨_, rfl⟩
    rw [← hwq] at hS1 hS2 hB ⊢
    clear hwq
    have hjN : (j : Int) ≤ (N : Int) := by omega
    have hjC : (j : Int) ≤ (cap : Int) := by omega
    go_wp2_with fail
    go_region_law (first
      | (refine step_app rfl (.tmp 20) (.tmp 23) 22 rfl wq.heap.size 3 i0 (.int .i64 0) 8 Try.underlying22 hi hz0 hz1 hz2 rfl (by simp [Act.eval]) (World.ownsRow_made wq.drew #[] 0 (Nat.le_refl _) (by unfold maxLen; omega) rfl) (by simp [Act.eval]) (hS1.below ((Below.refl wq.heap.size wq).drew.alloc (Nat.le_refl _) _)) hc1 (by rw [hl1]; unfold maxLen; omega) (by rw [hl1]; omega) (by simp <;> omega) ?_; intro v1 w1 hown1 hgrow1 hsm1; have hB1 := ((Below.refl wq.heap.size wq).drew.alloc (Nat.le_refl _) _).grown hgrow1 (by simp <;> omega) (fun j hj => by cases hj; simp))
      | (refine step_app rfl (.tmp 20) (.tmp 23) 22 rfl wq.heap.size 3 i0 (.int .i64 0) 8 Try.underlying22 hi hz0 hz1 hz2 rfl (by simp [Act.eval]) ((World.ownsRow_made wq.drew #[] 0 (Nat.le_refl _) (by unfold maxLen; omega) rfl).alloc (.cells #[(.int .i64 (m : Int))] 3)) (by simp [Act.eval]) (hS1.below (((Below.refl wq.heap.size wq).drew.alloc (Nat.le_refl _) _).alloc (by simp) _)) hc1 (by rw [hl1]; unfold maxLen; omega) (by rw [hl1]; omega) (by simp <;> omega) ?_; intro v1 w1 hown1 hgrow1 hsm1; have hB1 := (((Below.refl wq.heap.size wq).drew.alloc (Nat.le_refl _) _).alloc (by simp) _).grown hgrow1 (by simp <;> omega) (fun j hj => by cases hj; simp); have h54 := (Sl.one (wq.drew.alloc (.cells #[] 3)) (.int .i64 (m : Int)) 3).grown hgrow1 (by simp [Value.ownBlock]))
      | (refine step_app rfl (.tmp 20) (.tmp 23) 22 rfl wq.heap.size 3 i0 (.int .i64 0) 8 Try.underlying22 hi hz0 hz1 hz2 rfl (by simp [Act.eval]) (World.ownsRow_made (wq.drew.alloc (.cells #[(.int .i64 (m : Int))] 3)) #[] 0 (by simp) (by unfold maxLen; omega) rfl) (by simp [Act.eval]) (hS1.below (((Below.refl wq.heap.size wq).drew.alloc (Nat.le_refl _) _).alloc (by simp) _)) hc1 (by rw [hl1]; unfold maxLen; omega) (by rw [hl1]; omega) (by simp <;> omega) ?_; intro v1 w1 hown1 hgrow1 hsm1; have hB1 := (((Below.refl wq.heap.size wq).drew.alloc (Nat.le_refl _) _).alloc (by simp) _).grown hgrow1 (by simp <;> omega) (fun j hj => by cases hj; simp); have h54 := ((Sl.one wq.drew (.int .i64 (m : Int)) 3).alloc (.cells #[] 3)).grown hgrow1 (by simp [Value.ownBlock]))
      | (refine step_app rfl (.tmp 24) (.tmp 26) 22 rfl wq.heap.size 3 i0 (.int .i64 0) 8 Try.underlying22 hi hz0 hz1 hz2 rfl (by simp [Act.eval]) (hown1.alloc _) (by simp [Act.eval]) (Sl.one w1 (.int .i64 (m : Int)) 3) (fun u hu => by simp at hu; subst hu; rfl) (by simp only [hl1, List.length_cons, List.length_nil]; unfold maxLen; omega) (by simp only [hl1, List.length_cons, List.length_nil]; omega) (by first | exact hB1.size | (simp; exact Nat.le_succ_of_le hB1.size)) ?_; intro v2 w2 hown2 hgrow2 hsm2; have hB2 := (hB1.alloc hB1.size _).grown hgrow2 (by first | exact hB1.size | (simp; exact Nat.le_succ_of_le hB1.size)) (fun j hj => (hown1.lt j hj).1))
      | (refine step_app rfl (.tmp 24) (.tmp 26) 22 rfl wq.heap.size 3 i0 (.int .i64 0) 8 Try.underlying22 hi hz0 hz1 hz2 rfl (by simp [Act.eval]) hown1 (by simp [Act.eval]) h54 (fun u hu => by simp at hu; subst hu; rfl) (by simp only [hl1, List.length_cons, List.length_nil]; unfold maxLen; omega) (by simp only [hl1, List.length_cons, List.length_nil]; omega) (by first | exact hB1.size | (simp; exact Nat.le_succ_of_le hB1.size)) ?_; intro v2 w2 hown2 hgrow2 hsm2; have hB2 := hB1.grown hgrow2 (by first | exact hB1.size | (simp; exact Nat.le_succ_of_le hB1.size)) (fun j hj => (hown1.lt j hj).1))
      | (refine step_app rfl (.tmp 27) (.tmp 30) 22 rfl wq.heap.size 3 i0 (.int .i64 0) 8 Try.underlying22 hi hz0 hz1 hz2 rfl (by simp [Act.eval]) hown2 (by simp [Act.eval]) (hS2.below hB2) hc2 (by simp only [hl1, hl2, List.length_cons, List.length_nil]; unfold maxLen; omega) (by simp only [hl1, hl2, List.length_cons, List.length_nil]; omega) hB2.size ?_; intro v3 w3 hown3 hgrow3 hsm3))
    all_goals
      have hB3 := hB2.grown hgrow3 hB2.size (fun j hj => (hown2.lt j hj).1)
      have hown4 : w3.ownsRow wq.heap.size 3 1 v3 (0 + T1.length + 1 + T2.length) (ints qs) := by rw [hT.out]; exact hown3
      have hne3 : v3 ≠ .slice none 0 0 := fun h => by have := hsm1 (hsm2 (hsm3 h)); cases this
      have hfin := hidden (slS_of (B' := B) hown4 hne3 (Nat.le_trans hBw.out hB.size))
      have hfb := hidden (hB.trans (hB3.mono hB.size))
      clear hown1 hown2 hown3 hown4 hgrow1 hgrow2 hgrow3 hB1 hB2 hB3 hS1 hS2
      go_wp2
      all_goals
        go_ret
        exact ⟨v3, rfl, hfin.out, hfb.out⟩
  · have heq : (L fun k => p k || (good n && k == n.toNat)) = L p := L_congr fun k => by
      by_cases hk : k = n.toNat
      · rw [hk, beq_self_eq_true, Bool.and_true]
        cases h2 : p n.toNat with
        | true => rfl
        | false => cases h1 : good n with
          | true => exact absurd ⟨h1, h2⟩ hnew
          | false => rfl
      · have : (k == n.toNat) = false := by simpa using hk
        rw [this, Bool.and_false, Bool.or_false]
    rw [heq]
    have hia := fun j (h : Place (L p) n j) => isAt_L h
    have hv2 := hv
    obtain ⟨g, og, cap, rfl, -, hsl⟩ := hv
    clear hsl heq hi hz0 hz1 hz2
    generalize L p = lp at *
    cases hg : good n with
    | false =>
      rw [hg] at hgd
      simp only [hg, Bool.false_and] at hia
      clear hnew hg
      go_enter Try.func10, Try.ntmps10
      go_wp2_with fail
      refine hat.mono ?_
      rintro e w1 ⟨j, rfl, hpl, hB⟩
      rw [hia j hpl]
      clear hat hia hpl
      go_wp2_with fail
      refine (hgd _).mono ?_
      rintro e wr ⟨rfl, rfl⟩
      clear hgd
      go_wp2
      go_ret
      exact ⟨_, rfl, hv2.below hB, hB⟩
    | true =>
      have hp : p n.toNat = true := by
        cases hp : p n.toNat with
        | true => rfl
        | false => exact absurd ⟨hg, hp⟩ hnew
      simp only [hg, hp, Bool.true_and] at hia
      clear hnew hg hp hgd
      go_enter Try.func10, Try.ntmps10
      go_wp2_with fail
      refine hat.mono ?_
      rintro e w1 ⟨j, rfl, hpl, hB⟩
      rw [hia j hpl]
      clear hat hia hpl
      go_wp2
      go_ret
      exact ⟨_, rfl, hv2.below hB, hB⟩

theorem L_none : L (fun _ => false) = [] := List.filter_eq_nil_iff.2 fun _ _ => by simp
set_option maxHeartbeats 1600000 in
theorem of_c (v : Value) (zs : List Int) (w : World) (hv : Holds w v (zs.map (Value.int .i64))) (hz : zs.length ≤ 1000) : Calls Try.prog 4 #[v] w fun e w' =>
    ∃ v', e = .returned v' ∧ SlS w.heap.size w' v' (L (inL zs)) ∧ Below w.heap.size w w' := by
  obtain ⟨a, cap, rfl, hrow⟩ := hv
  simp only [List.length_map]
  obtain ⟨lf, hlf⟩ : ∃ lf : Nat → List Nat, Hid (∀ j, lf j = L (inL (zs.take j))) := ⟨fun j => L (inL (zs.take j)), (fun _ => rfl : ∀ _, _ = _)⟩
  have hfin : Hid (L (inL zs) = lf zs.length) := by show _ = _; rw [hlf.out, List.take_length]
  have hl0 : Hid (lf 0 = []) := by
    show _ = _
    rw [hlf.out, ← L_none]; rfl
  have hadd : Hid (∀ j, j < zs.length → ∀ B u w, B ≤ w.heap.size → SlS B w u (lf j) → Calls Try.prog 10 #[u, .int .i64 (zs.getD j 0)] w fun e w' => ∃ v', e = .returned v' ∧ SlS B w' v' (lf (j + 1)) ∧ Below w.heap.size w w') := by
    intro j hj B u w hBw h
    rw [hlf.out] at h
    have := radd_c u (inL (zs.take j)) (zs.getD j 0) B w hBw h
    have e : lf (j + 1) = L fun k => inL (zs.take j) k || (good (zs.getD j 0) && k == (zs.getD j 0).toNat) := by
      rw [hlf.out]
      apply L_congr
      intro k
      rw [take_snocI zs j hj]
      simp [inL]
    rw [e]; exact this
  rw [hfin.out]
  clear hfin hlf
  go_enter Try.func4, Try.ntmps4
  go_wp2_with fail
  go_loopw [3, 4] (fun u i wr => ∃ j : Nat, j ≤ zs.length ∧ i = .int .i64 (j : Int) ∧ Hid (SlS w.heap.size wr u (lf j)) ∧ Hid (Below w.heap.size w wr)) (fun _ i _ => zs.length - (intOf i).toNat)
  case atStart =>
    refine ⟨0, Nat.zero_le _, rfl, ?_, ((Below.refl _ _).alloc (Nat.le_refl _) _)⟩
    show SlS _ _ _ _
    rw [hl0.out]
    exact ⟨w.heap.size, 0, 0, rfl, Nat.le_refl _, ⟨_, 0, rfl, Nat.le_refl _, (fun e => by cases e), (fun x e => by cases e; rfl), .inl rfl⟩⟩
  case round =>
    obtain ⟨j, hj, rfl, hS, hB⟩ := hrel
    by_cases hlt : j < zs.length
    · have hadd := fun B u w hb h => hadd.out j hlt B u w hb h
      rcases hrow with h0 | ⟨b, off, rfl, hb, hc⟩
      · simp only [List.map_eq_nil_iff] at h0; subst h0; simp at hlt
      have hcx : wr.cell? ⟨b, off + j, none⟩ = some (.int .i64 (zs.getD j 0)) := (hB.out.cell (by exact hb)).trans (hc j _ (by simp [hlt]))
      have hj1 : (j : Int) < (zs.length : Int) := by omega
      clear hc
      generalize zs.getD j 0 = z at *
      have hcall := hadd w.heap.size _ wr hB.out.size hS.out
      clear hadd
      go_wp2_with fail
      refine hcall.mono ?_
      rintro e w2 ⟨v', rfl, hS2, hB2⟩
      replace hS2 := hidden hS2
      replace hB2 : Hid (Below w.heap.size w w2) := hB.out.trans (hB2.mono hB.out.size)
      clear hcall hS hB hcx
      go_wp2
      go_roundw
      case rel => exact ⟨j + 1, by omega, by go_num, hS2, hB2⟩
      case measure => simp [intOf]; omega
    · have hj1 : ¬ (j : Int) < (zs.length : Int) := by omega
      obtain rfl : j = zs.length := by omega
      clear hadd hl0
      go_wp2
      go_ret
      exact ⟨_, rfl, hS.out, hB.out⟩
end Go.Proofs.Ytbkldenjldejiaa
