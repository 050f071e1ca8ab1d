/-
  RISING LISTS, as the reference looks for a number, puts one in, takes one out, and makes one of any numbers: by contract.
-/
import Derived.Test.YtieinedancdokacDoorPE
import Derived.BigQuiet
import Derived.Test.YtieinedancdokacDoorPG
import Derived.Test.YtieinedancdokacDoorPD
import Derived.Test.YtieinedancdokacDoorPC
namespace Go.Proofs.YtieinedancdokacDoor
open Go.ChangeShapes Go.WideShapes Go.ChangeAt Go.RowKit

theorem ints_len (xs : List Nat) : (ints xs).length = xs.length := by simp [ints]
theorem ints_at (xs : List Nat) (k : Nat) (hk : k < xs.length) : (ints xs)[k]? = some (.int .i64 ((xs.getD k 0 : Nat) : Int)) := by simp [ints, hk]
set_option maxHeartbeats 800000 in
theorem refgood_c (n : Int) (w : World) : Calls Tryd.prog 9 #[.int .i64 n] w fun e w' => e = .returned (.bool (good n)) ∧ w' = w := by
  by_cases h0 : (0 : Int) ≤ n
  · by_cases h1 : n < 65536
    · have hg : good n = true := by simp [good, h0, h1]
      rw [hg]
      go_enter Tryd.func9, Tryd.ntmps9
      go_wp2
      go_ret
      exact ⟨by first | rfl | simp, rfl⟩
    · have hg : good n = false := by simp [good]; omega
      rw [hg]
      go_enter Tryd.func9, Tryd.ntmps9
      go_wp2
      go_ret
      exact ⟨by first | rfl | simp | (simp; omega), rfl⟩
  · have hg : good n = false := by simp [good]; omega
    rw [hg]
    go_enter Tryd.func9, Tryd.ntmps9
    go_wp2
    go_ret
    exact ⟨rfl, rfl⟩
set_option maxHeartbeats 1600000 in
theorem at_c (v : Value) (xs : List Nat) (n : Int) (w : World) (hv : Holds w v (ints xs)) (hl : xs.length ≤ 100000) : Calls Tryd.prog 5 #[v, .int .i64 n] w fun e w' =>
    ∃ j : Nat, e = .returned (.tuple #[.int .i64 (j : Int), .bool (isAt xs n j)]) ∧ Place xs n j ∧ Below w.heap.size w w' := by
  obtain ⟨a, cap, rfl, hrow⟩ := hv
  rw [ints_len]
  go_enter Tryd.func5, Tryd.ntmps5
  go_wp2
  go_loop [6] (fun u => ∃ j : Nat, j ≤ xs.length ∧ u = .int .i64 (j : Int) ∧ Hid (∀ i, i < j → ((xs.getD i 0 : Nat) : Int) < n)) (fun u => xs.length - (intOf u).toNat)
  case atStart => exact ⟨0, Nat.zero_le _, rfl, (fun i hi => absurd hi (Nat.not_lt_zero i) : ∀ i, i < 0 → ((xs.getD i 0 : Nat) : Int) < n)⟩
  case round =>
    obtain ⟨j, hj, rfl, hlow⟩ := hrel
    by_cases hlt : j < xs.length
    · rcases hrow with h0 | ⟨b, off, rfl, hb, hc⟩
      · have := congrArg List.length h0
        rw [ints_len] at this; simp only [List.length_nil] at this; omega
      have hcx : w.cell? ⟨b, off + j, none⟩ = some (.int .i64 ((xs.getD j 0 : Nat) : Int)) := hc j _ (ints_at xs j hlt)
      have hcd : w.drew.cell? ⟨b, off + j, none⟩ = some (.int .i64 ((xs.getD j 0 : Nat) : Int)) := hcx
      have hj1 : (j : Int) < (xs.length : Int) := by omega
      have hpl : ∀ h : n ≤ ((xs.getD j 0 : Nat) : Int), Place xs n j := fun h => ⟨hj, hlow.out, fun _ => h⟩
      have hia : isAt xs n j = decide (((xs.getD j 0 : Nat) : Int) = n) := by simp [isAt, hlt]
      have hnx : (((xs.getD j 0 : Nat) : Int) < n) → Hid (∀ i, i < j + 1 → ((xs.getD i 0 : Nat) : Int) < n) := fun h i hi => by
        rcases Nat.lt_or_ge i j with h1 | h1
        · exact hlow.out i h1
        · obtain rfl : i = j := by omega
          exact h
      clear hc hlow
      generalize ((xs.getD j 0 : Nat) : Int) = x at *
      by_cases hx : x < n
      · have hnx := hnx hx
        clear hpl hia hcd
        go_wp2
        go_round
        case rel => exact ⟨j + 1, by omega, by go_num, hnx⟩
        case measure => simp [intOf]; omega
      · have hpl := hidden (hpl (by omega))
        replace hia := hidden hia
        clear hnx
        by_cases hxe : x = n
        · have hd : decide (x = n) = true := by simp [hxe]
          have hia2 := hidden (hia.out.trans hd)
          have hbe : (x == n) = true := by simp [hxe]
          clear hia hd
          go_wp2
          go_quiet (fail)
          go_wp2
          go_ret2
          exact ⟨j, by rw [hia2.out]; rfl, hpl.out, below_drewN (Below.refl _ _) _⟩
        · have hd : decide (x = n) = false := by simp [hxe]
          have hia2 := hidden (hia.out.trans hd)
          have hbe : (x == n) = false := by simp [hxe]
          clear hia hd
          go_wp2
          go_quiet (fail)
          go_wp2
          go_ret2
          exact ⟨j, by rw [hia2.out]; rfl, hpl.out, below_drewN (Below.refl _ _) _⟩
    · have hj1 : ¬ (j : Int) < (xs.length : Int) := by omega
      have hd : decide ((j : Int) < (xs.length : Int)) = false := by simp; omega
      have hpl : Hid (Place xs n j) := ⟨hj, hlow.out, fun h => absurd h hlt⟩
      have hia2 : Hid (isAt xs n j = false) := by show _ = _; simp [isAt, hlt]
      clear hlow hrow
      go_wp2
      go_quiet (fail)
      go_wp2
      go_ret2
      exact ⟨j, by rw [hia2.out]; rfl, hpl.out, below_drewN (Below.refl _ _) _⟩

/-- A list in memory from B on, which is not nil. -/
def SlS (B : Nat → Prop) (w : World) (v : Value) (xs : List Nat) : Prop := ∃ g og cap, v = .slice (some ⟨g, og, none⟩) xs.length cap ∧ (xs = [] ∨ B g) ∧ Sl w v (ints xs)
theorem SlS.below {B : Nat → Prop} {w w' : World} {v : Value} {xs : List Nat} (h : SlS B w v xs) (hb : Below w.heap.size w w') : SlS B w' v xs := by
  obtain ⟨g, og, cap, h1, h0, h2⟩ := h
  exact ⟨g, og, cap, h1, h0, h2.below hb⟩
theorem SlS.holds {B : Nat → Prop} {w : World} {v : Value} {xs : List Nat} (h : SlS B w v xs) : Holds w v (ints xs) := by
  obtain ⟨g, og, cap, h1, h0, h2⟩ := h
  exact h2.holds
theorem SlS.save {B : Nat → Prop} {S : List Nat} {w w' : World} {v : Value} {xs : List Nat} (h : SlS B w v xs) (hs : Save S w w') (hS : ∀ k ∈ S, ¬ B k) : SlS B w' v xs := by
  obtain ⟨g, og, cap, rfl, h0, a, cap2, h1, h2, h3, h4, h5⟩ := h
  refine ⟨g, og, cap, rfl, h0, a, cap2, h1, h2, h3, h4, ?_⟩
  rcases h0 with rfl | h0
  · exact .inl rfl
  have hg : g ∉ S := fun hm => hS g hm h0
  rcases h5 with h5 | ⟨b, off, h6, h7, h8⟩
  · exact .inl h5
  · subst h6
    simp only [Value.slice.injEq, Option.some.injEq, Addr.mk.injEq] at h1
    obtain ⟨⟨rfl, _, _⟩, _⟩ := h1
    refine .inr ⟨g, off, rfl, Nat.lt_of_lt_of_le h7 hs.size, fun j u hj => ?_⟩
    exact (World.cell?_of_block (hs.block g h7 hg)).trans (h8 j u hj)
/-- Where it lies may be said otherwise, of blocks that are there. -/
theorem SlS.mono {B B' : Nat → Prop} {w : World} {v : Value} {xs : List Nat} (h : SlS B w v xs) (hB : ∀ x, x < w.heap.size → B x → B' x) : SlS B' w v xs := by
  obtain ⟨g, og, cap, rfl, h0, h2⟩ := h
  refine ⟨g, og, cap, rfl, ?_, h2⟩
  rcases h0 with h0 | h0
  · exact .inl h0
  · obtain ⟨a, cap2, h1, _, _, _, h5⟩ := h2
    rcases h5 with h5 | ⟨b, off, h6, h7, _⟩
    · left
      have := congrArg List.length h5
      rw [ints_len] at this
      exact List.eq_nil_of_length_eq_zero this
    · subst h6
      simp only [Value.slice.injEq, Option.some.injEq, Addr.mk.injEq] at h1
      obtain ⟨⟨rfl, _, _⟩, _⟩ := h1
      exact .inr (hB _ h7 h0)
theorem ints_cells (xs : List Nat) : ∀ u ∈ ints xs, u.oneCell' = true := fun u hu => by
  simp only [ints, List.mem_map] at hu
  obtain ⟨x, _, rfl⟩ := hu
  rfl
theorem slS_of {w : World} {B : Nat} {B' : Nat → Prop} {e : TypeId} {v : Value} {n : Nat} {xs : List Nat} (h : w.ownsRow B e 1 v n (ints xs)) (hv : v ≠ .slice none 0 0) (hB : ∀ x, B ≤ x → B' x) : SlS B' w v xs := by
  obtain ⟨g, c, rfl, hg, _⟩ := own_some h hv
  have hl := h.1
  rw [ints_len, Nat.mul_one] at hl
  exact ⟨g, 0, c, by rw [hl], .inr (hB _ hg), sl_of_owns h⟩
set_option maxHeartbeats 3200000 in
theorem radd_c (v : Value) (p : Nat → Bool) (n : Int) (B : Nat → Prop) (w : World) (hBw : ∀ x, w.heap.size ≤ x → B x) (hv : SlS B w v (L p)) : Calls Tryd.prog 10 #[v, .int .i64 n] w fun e w' =>
    ∃ v', e = .returned v' ∧ SlS B w' v' (L fun k => p k || (good n && k == n.toNat)) ∧ Below w.heap.size w w' := by
  replace hBw := hidden hBw
  obtain ⟨i0, hi, hz0, hz1, hz2⟩ := info_parts infoI
  have hlen := L_len p
  have hat := at_c v (L p) n w hv.holds (by omega)
  have hgd := fun w => refgood_c n w
  by_cases hnew : good n = true ∧ p n.toNat = false
  · obtain ⟨hg, hp⟩ := hnew
    have hg0 := hg
    simp only [good, Bool.and_eq_true, decide_eq_true_eq] at hg
    obtain ⟨m, rfl⟩ := Int.eq_ofNat_of_zero_le hg.1
    simp only [Int.toNat_natCast] at hp ⊢
    rw [hg0] at hgd
    have hia := fun j (h : Place (L p) m j) => (isAt_L h).trans (by rw [hg0, Int.toNat_natCast, hp, Bool.true_and])
    have hput := fun j h => L_put (p := p) (m := m) (j := j) (by omega) hp h
    have heq : (L fun k => p k || (good (m : Int) && k == m)) = L fun k => p k || k == m := L_congr fun k => by rw [hg0]; simp
    rw [heq]
    generalize hq : (L fun k => p k || k == m) = qs at *
    obtain ⟨g, og, cap, rfl, -, hsl⟩ := hv
    clear hg hg0 heq hq
    go_enter Tryd.func10, Tryd.ntmps10
    go_wp2_with fail
    refine hat.mono ?_
    rintro e w1 ⟨j, rfl, hpl, hB⟩
    rw [hia j hpl]
    clear hat
    go_wp2_with fail
    refine (hgd _).mono ?_
    rintro e wr ⟨rfl, rfl⟩
    clear hgd
    have hput := hput j hpl
    have hjl := hpl.le
    clear hpl hia
    have hS1 := (hsl.below hB).to' j hjl
    have hS2 := (hsl.below hB).from' j hjl
    have hnco : j ≤ cap := by
      obtain ⟨_, cap', hcc, hnco, -⟩ := hsl
      rw [ints_len] at hnco
      generalize L p = lp at *
      simp only [Value.slice.injEq] at hcc
      omega
    clear hsl
    have hl1 : ((ints (L p)).take j).length = j := by rw [List.length_take, ints_len]; omega
    have hl2 : ((ints (L p)).drop j).length = (L p).length - j := by rw [List.length_drop, ints_len]
    have hc1 : ∀ u ∈ (ints (L p)).take j, u.oneCell' = true := fun u hu => ints_cells _ u (List.mem_of_mem_take hu)
    have hc2 : ∀ u ∈ (ints (L p)).drop j, u.oneCell' = true := fun u hu => ints_cells _ u (List.mem_of_mem_drop hu)
    have hT : Hid (ints qs = (ints (L p)).take j ++ [(.int .i64 (m : Int))] ++ (ints (L p)).drop j) := by
      show _ = _
      rw [← hput]; simp [ints, List.map_take, List.map_drop]
    generalize (ints (L p)).take j = T1 at *
    generalize (ints (L p)).drop j = T2 at *
    generalize (L p).length = N at *
    clear hput hp
    obtain ⟨wq, hwq⟩ : ∃ wq, wq = wr := ⟨_, rfl⟩
    rw [← hwq] at hS1 hS2 hB ⊢
    clear hwq
    have hjN : (j : Int) ≤ (N : Int) := by omega
    have hjC : (j : Int) ≤ (cap : Int) := by omega
    go_wp2_with fail
    go_region_law (first
      | (refine step_app rfl (.tmp 20) (.tmp 23) 25 rfl wq.heap.size 3 i0 (.int .i64 0) 8 Tryd.underlying25 hi hz0 hz1 hz2 rfl (by simp [Act.eval]) (World.ownsRow_made wq.drew #[] 0 (Nat.le_refl _) (by unfold maxLen; omega) rfl) (by simp [Act.eval]) (hS1.below ((Below.refl wq.heap.size wq).drew.alloc (Nat.le_refl _) _)) hc1 (by rw [hl1]; unfold maxLen; omega) (by rw [hl1]; omega) (by simp <;> omega) ?_; intro v1 w1 hown1 hgrow1 hsm1; have hB1 := ((Below.refl wq.heap.size wq).drew.alloc (Nat.le_refl _) _).grown hgrow1 (by simp <;> omega) (fun j hj => by cases hj; simp))
      | (refine step_app rfl (.tmp 20) (.tmp 23) 25 rfl wq.heap.size 3 i0 (.int .i64 0) 8 Tryd.underlying25 hi hz0 hz1 hz2 rfl (by simp [Act.eval]) ((World.ownsRow_made wq.drew #[] 0 (Nat.le_refl _) (by unfold maxLen; omega) rfl).alloc (.cells #[(.int .i64 (m : Int))] 3)) (by simp [Act.eval]) (hS1.below (((Below.refl wq.heap.size wq).drew.alloc (Nat.le_refl _) _).alloc (by simp) _)) hc1 (by rw [hl1]; unfold maxLen; omega) (by rw [hl1]; omega) (by simp <;> omega) ?_; intro v1 w1 hown1 hgrow1 hsm1; have hB1 := (((Below.refl wq.heap.size wq).drew.alloc (Nat.le_refl _) _).alloc (by simp) _).grown hgrow1 (by simp <;> omega) (fun j hj => by cases hj; simp); have h54 := (Sl.one (wq.drew.alloc (.cells #[] 3)) (.int .i64 (m : Int)) 3).grown hgrow1 (by simp [Value.ownBlock]))
      | (refine step_app rfl (.tmp 20) (.tmp 23) 25 rfl wq.heap.size 3 i0 (.int .i64 0) 8 Tryd.underlying25 hi hz0 hz1 hz2 rfl (by simp [Act.eval]) (World.ownsRow_made (wq.drew.alloc (.cells #[(.int .i64 (m : Int))] 3)) #[] 0 (by simp) (by unfold maxLen; omega) rfl) (by simp [Act.eval]) (hS1.below (((Below.refl wq.heap.size wq).drew.alloc (Nat.le_refl _) _).alloc (by simp) _)) hc1 (by rw [hl1]; unfold maxLen; omega) (by rw [hl1]; omega) (by simp <;> omega) ?_; intro v1 w1 hown1 hgrow1 hsm1; have hB1 := (((Below.refl wq.heap.size wq).drew.alloc (Nat.le_refl _) _).alloc (by simp) _).grown hgrow1 (by simp <;> omega) (fun j hj => by cases hj; simp); have h54 := ((Sl.one wq.drew (.int .i64 (m : Int)) 3).alloc (.cells #[] 3)).grown hgrow1 (by simp [Value.ownBlock]))
      | (refine step_app rfl (.tmp 24) (.tmp 26) 25 rfl wq.heap.size 3 i0 (.int .i64 0) 8 Tryd.underlying25 hi hz0 hz1 hz2 rfl (by simp [Act.eval]) (hown1.alloc _) (by simp [Act.eval]) (Sl.one w1 (.int .i64 (m : Int)) 3) (fun u hu => by simp at hu; subst hu; rfl) (by simp only [hl1, List.length_cons, List.length_nil]; unfold maxLen; omega) (by simp only [hl1, List.length_cons, List.length_nil]; omega) (by first | exact hB1.size | (simp; exact Nat.le_succ_of_le hB1.size)) ?_; intro v2 w2 hown2 hgrow2 hsm2; have hB2 := (hB1.alloc hB1.size _).grown hgrow2 (by first | exact hB1.size | (simp; exact Nat.le_succ_of_le hB1.size)) (fun j hj => (hown1.lt j hj).1))
      | (refine step_app rfl (.tmp 24) (.tmp 26) 25 rfl wq.heap.size 3 i0 (.int .i64 0) 8 Tryd.underlying25 hi hz0 hz1 hz2 rfl (by simp [Act.eval]) hown1 (by simp [Act.eval]) h54 (fun u hu => by simp at hu; subst hu; rfl) (by simp only [hl1, List.length_cons, List.length_nil]; unfold maxLen; omega) (by simp only [hl1, List.length_cons, List.length_nil]; omega) (by first | exact hB1.size | (simp; exact Nat.le_succ_of_le hB1.size)) ?_; intro v2 w2 hown2 hgrow2 hsm2; have hB2 := hB1.grown hgrow2 (by first | exact hB1.size | (simp; exact Nat.le_succ_of_le hB1.size)) (fun j hj => (hown1.lt j hj).1))
      | (refine step_app rfl (.tmp 27) (.tmp 30) 25 rfl wq.heap.size 3 i0 (.int .i64 0) 8 Tryd.underlying25 hi hz0 hz1 hz2 rfl (by simp [Act.eval]) hown2 (by simp [Act.eval]) (hS2.below hB2) hc2 (by simp only [hl1, hl2, List.length_cons, List.length_nil]; unfold maxLen; omega) (by simp only [hl1, hl2, List.length_cons, List.length_nil]; omega) hB2.size ?_; intro v3 w3 hown3 hgrow3 hsm3))
    all_goals
      have hB3 := hB2.grown hgrow3 hB2.size (fun j hj => (hown2.lt j hj).1)
      have hown4 : w3.ownsRow wq.heap.size 3 1 v3 (0 + T1.length + 1 + T2.length) (ints qs) := by rw [hT.out]; exact hown3
      have hne3 : v3 ≠ .slice none 0 0 := fun h => by have := hsm1 (hsm2 (hsm3 h)); cases this
      have hfin := hidden (slS_of (B' := B) hown4 hne3 (fun x hx => hBw.out x (Nat.le_trans hB.size hx)))
      have hfb := hidden (hB.trans (hB3.mono hB.size))
      clear hown1 hown2 hown3 hown4 hgrow1 hgrow2 hgrow3 hB1 hB2 hB3 hS1 hS2
      go_wp2
      all_goals
        go_ret
        exact ⟨v3, rfl, hfin.out, hfb.out⟩
  · have heq : (L fun k => p k || (good n && k == n.toNat)) = L p := L_congr fun k => by
      by_cases hk : k = n.toNat
      · rw [hk, beq_self_eq_true, Bool.and_true]
        cases h2 : p n.toNat with
        | true => rfl
        | false => cases h1 : good n with
          | true => exact absurd ⟨h1, h2⟩ hnew
          | false => rfl
      · have : (k == n.toNat) = false := by simpa using hk
        rw [this, Bool.and_false, Bool.or_false]
    rw [heq]
    have hia := fun j (h : Place (L p) n j) => isAt_L h
    have hv2 := hv
    obtain ⟨g, og, cap, rfl, -, hsl⟩ := hv
    clear hsl heq hi hz0 hz1 hz2
    generalize L p = lp at *
    cases hg : good n with
    | false =>
      rw [hg] at hgd
      simp only [hg, Bool.false_and] at hia
      clear hnew hg
      go_enter Tryd.func10, Tryd.ntmps10
      go_wp2_with fail
      refine hat.mono ?_
      rintro e w1 ⟨j, rfl, hpl, hB⟩
      rw [hia j hpl]
      clear hat hia hpl
      go_wp2_with fail
      refine (hgd _).mono ?_
      rintro e wr ⟨rfl, rfl⟩
      clear hgd
      go_wp2
      go_ret
      exact ⟨_, rfl, hv2.below hB, hB⟩
    | true =>
      have hp : p n.toNat = true := by
        cases hp : p n.toNat with
        | true => rfl
        | false => exact absurd ⟨hg, hp⟩ hnew
      simp only [hg, hp, Bool.true_and] at hia
      clear hnew hg hp hgd
      go_enter Tryd.func10, Tryd.ntmps10
      go_wp2_with fail
      refine hat.mono ?_
      rintro e w1 ⟨j, rfl, hpl, hB⟩
      rw [hia j hpl]
      clear hat hia hpl
      go_wp2
      go_ret
      exact ⟨_, rfl, hv2.below hB, hB⟩

theorem L_none : L (fun _ => false) = [] := List.filter_eq_nil_iff.2 fun _ _ => by simp
end Go.Proofs.YtieinedancdokacDoor
/-
  A RISING LIST WITHOUT ONE, as the reference makes it: by contract.
-/
namespace Go.Proofs.YtieinedancdokacDoor
open Go.ChangeShapes Go.WideShapes Go.ChangeAt Go.RowKit

set_option maxHeartbeats 3200000 in
theorem rcut_c (v : Value) (p : Nat → Bool) (n : Int) (B : Nat → Prop) (w : World) (hBw : ∀ x, w.heap.size ≤ x → B x) (hv : SlS B w v (L p)) : Calls Tryd.prog 7 #[v, .int .i64 n] w fun e w' =>
    ∃ v', e = .returned v' ∧ SlS B w' v' (L fun k => p k && !(good n && k == n.toNat)) ∧ Below w.heap.size w w' := by
  replace hBw := hidden hBw
  obtain ⟨i0, hi, hz0, hz1, hz2⟩ := info_parts infoI
  have hlen := L_len p
  have hat := at_c v (L p) n w hv.holds (by omega)
  by_cases hnew : good n = true ∧ p n.toNat = true
  · obtain ⟨hg, hp⟩ := hnew
    have hg0 := hg
    simp only [good, Bool.and_eq_true, decide_eq_true_eq] at hg
    obtain ⟨m, rfl⟩ := Int.eq_ofNat_of_zero_le hg.1
    simp only [Int.toNat_natCast] at hp ⊢
    have hia := fun j (h : Place (L p) m j) => (isAt_L h).trans (by rw [hg0, Int.toNat_natCast, hp, Bool.true_and])
    have hput := fun j h => L_cut (p := p) (m := m) (j := j) (by omega) hp h
    have hjlt := fun j (h : Place (L p) m j) => (show isAt (L p) m j = true from hia j h)
    have heq : (L fun k => p k && !(good (m : Int) && k == m)) = L fun k => p k && !(k == m) := L_congr fun k => by rw [hg0, Bool.true_and]
    rw [heq]
    generalize hq : (L fun k => p k && !(k == m)) = qs at *
    obtain ⟨g, og, cap, rfl, -, hsl⟩ := hv
    clear hg hg0 heq hq
    go_enter Tryd.func7, Tryd.ntmps7
    go_wp2_with fail
    refine hat.mono ?_
    rintro e wr ⟨j, rfl, hpl, hB⟩
    rw [hia j hpl]
    clear hat
    have hput := hput j hpl
    have hjl : j + 1 ≤ (L p).length := by
      have := hjlt j hpl
      simp only [isAt, Bool.and_eq_true, decide_eq_true_eq] at this
      exact this.1
    clear hpl hia hjlt
    have hS1 := (hsl.below hB).to' j (Nat.le_of_succ_le hjl)
    have hS2 := (hsl.below hB).from' (j + 1) hjl
    have hnco : j + 1 ≤ cap := by
      obtain ⟨_, cap', hcc, hnco, -⟩ := hsl
      rw [ints_len] at hnco
      generalize L p = lp at *
      simp only [Value.slice.injEq] at hcc
      omega
    clear hsl
    have hl1 : ((ints (L p)).take j).length = j := by rw [List.length_take, ints_len]; omega
    have hl2 : ((ints (L p)).drop (j + 1)).length = (L p).length - (j + 1) := by rw [List.length_drop, ints_len]
    have hc1 : ∀ u ∈ (ints (L p)).take j, u.oneCell' = true := fun u hu => ints_cells _ u (List.mem_of_mem_take hu)
    have hc2 : ∀ u ∈ (ints (L p)).drop (j + 1), u.oneCell' = true := fun u hu => ints_cells _ u (List.mem_of_mem_drop hu)
    have hT : Hid (ints qs = (ints (L p)).take j ++ (ints (L p)).drop (j + 1)) := by
      show _ = _
      rw [← hput]; simp [ints, List.map_take, List.map_drop]
    generalize (ints (L p)).take j = T1 at *
    generalize (ints (L p)).drop (j + 1) = T2 at *
    generalize (L p).length = N at *
    clear hput hp
    obtain ⟨wq, hwq⟩ : ∃ wq, wq = wr := ⟨_, rfl⟩
    rw [← hwq] at hS1 hS2 hB ⊢
    clear hwq
    have e1 : wrap64 ((j : Int) + 1) = ((j + 1 : Nat) : Int) := by rw [IntWalk.wrap64_in] <;> omega
    have hjN0 : (j : Int) ≤ (N : Int) := by omega
    generalize hjq : j + 1 = q at *
    have hjN : (q : Int) ≤ (N : Int) := by omega
    have hjC : (q : Int) ≤ (cap : Int) := by omega
    have hq0 : (0 : Int) ≤ (q : Int) := by omega
    have e4 : IntKind.i64.wrap ((j : Int) + 1) = (q : Int) := by rw [IntWalk.i64_in] <;> omega
    have hjC0 : (j : Int) ≤ (cap : Int) := by omega
    go_wp2_with fail
    go_region_law (first
      | (refine step_app rfl (.tmp 16) (.tmp 19) 25 rfl wq.heap.size 3 i0 (.int .i64 0) 8 Tryd.underlying25 hi hz0 hz1 hz2 rfl (by simp [Act.eval]) (World.ownsRow_made wq.drew #[] 0 (Nat.le_refl _) (by unfold maxLen; omega) rfl) (by simp [Act.eval]) (hS1.below ((Below.refl wq.heap.size wq).drew.alloc (Nat.le_refl _) _)) hc1 (by rw [hl1]; unfold maxLen; omega) (by rw [hl1]; omega) (by simp <;> omega) ?_; intro v1 w1 hown1 hgrow1 hsm1; have hB1 := ((Below.refl wq.heap.size wq).drew.alloc (Nat.le_refl _) _).grown hgrow1 (by simp <;> omega) (fun j hj => by cases hj; simp))
      | (refine step_app rfl (.tmp 20) (.tmp 24) 25 rfl wq.heap.size 3 i0 (.int .i64 0) 8 Tryd.underlying25 hi hz0 hz1 hz2 rfl (by simp [Act.eval]) hown1 (by simp [Act.eval]) (hS2.below hB1) hc2 (by simp only [hl1, hl2]; unfold maxLen; omega) (by simp only [hl1, hl2]; omega) hB1.size ?_; intro v3 w3 hown3 hgrow3 hsm3))
    all_goals
      have hB3 := hB1.grown hgrow3 hB1.size (fun j hj => (hown1.lt j hj).1)
      have hown4 : w3.ownsRow wq.heap.size 3 1 v3 (0 + T1.length + T2.length) (ints qs) := by rw [hT.out]; exact hown3
      have hne3 : v3 ≠ .slice none 0 0 := fun h => by have := hsm1 (hsm3 h); cases this
      have hfin := hidden (slS_of (B' := B) hown4 hne3 (fun x hx => hBw.out x (Nat.le_trans hB.size hx)))
      have hfb := hidden (hB.trans (hB3.mono hB.size))
      clear hown1 hown3 hown4 hgrow1 hgrow3 hB1 hB3 hS1 hS2
      go_wp2
      all_goals
        go_ret
        exact ⟨v3, rfl, hfin.out, hfb.out⟩
  · have heq : (L fun k => p k && !(good n && k == n.toNat)) = L p := L_congr fun k => by
      by_cases hk : k = n.toNat
      · rw [hk, beq_self_eq_true, Bool.and_true]
        cases h2 : p n.toNat with
        | false => rfl
        | true => cases h1 : good n with
          | true => exact absurd ⟨h1, h2⟩ hnew
          | false => rfl
      · have : (k == n.toNat) = false := by simpa using hk
        rw [this, Bool.and_false, Bool.not_false, Bool.and_true]
    rw [heq]
    have hno : (good n && p n.toNat) = false := by
      cases h1 : good n with
      | false => rfl
      | true => cases h2 : p n.toNat with
        | false => rfl
        | true => exact absurd ⟨h1, h2⟩ hnew
    have hia := fun j (h : Place (L p) n j) => (isAt_L h).trans hno
    have hv2 := hv
    obtain ⟨g, og, cap, rfl, -, hsl⟩ := hv
    clear hsl heq hi hz0 hz1 hz2 hno hnew
    generalize L p = lp at *
    go_enter Tryd.func7, Tryd.ntmps7
    go_wp2_with fail
    refine hat.mono ?_
    rintro e w1 ⟨j, rfl, hpl, hB⟩
    rw [hia j hpl]
    clear hat hia hpl
    go_wp2
    go_ret
    exact ⟨_, rfl, hv2.below hB, hB⟩
end Go.Proofs.YtieinedancdokacDoor
/-
  TWO RISING LISTS TOGETHER, AND THOSE OF ONE THAT ARE IN THE OTHER OR ARE NOT, as the reference makes them: by contract.
-/
namespace Go.Proofs.YtieinedancdokacDoor
open Go.ChangeShapes Go.WideShapes Go.ChangeAt Go.RowKit

theorem L_congr_on {p q : Nat → Bool} (h : ∀ k, k < 65536 → p k = q k) : L p = L q := List.filter_congr fun k hk => h k (List.mem_range.1 hk)
theorem take_snocN (ys : List Nat) (j : Nat) (hj : j < ys.length) : ys.take (j + 1) = ys.take j ++ [ys.getD j 0] := by
  rw [List.take_add_one, List.getElem?_eq_getElem hj]; simp [List.getD, hj]
theorem contains_L (q : Nat → Bool) (k : Nat) (hk : k < 65536) : (L q).contains k = q k := by
  rw [Bool.eq_iff_iff, List.contains_iff_mem, mem_L]
  exact ⟨fun h => h.2, fun h => ⟨hk, h⟩⟩
theorem L_getD {q : Nat → Bool} {j : Nat} (hj : j < (L q).length) : (L q).getD j 0 < 65536 := by
  have e : (L q).getD j 0 = (L q)[j] := by rw [List.getD_eq_getElem?_getD, List.getElem?_eq_getElem hj]; rfl
  rw [e]; exact (mem_L.1 (List.getElem_mem hj)).1
theorem or_more (p : Nat → Bool) (ys : List Nat) (j : Nat) (hj : j < ys.length) (hy : ys.getD j 0 < 65536) :
    (L fun k => (p k || (ys.take j).contains k) || (good ((ys.getD j 0 : Nat) : Int) && k == (((ys.getD j 0 : Nat) : Int)).toNat)) = L fun k => p k || (ys.take (j + 1)).contains k := by
  have hg : good ((ys.getD j 0 : Nat) : Int) = true := by
    simp only [good, Bool.and_eq_true, decide_eq_true_eq]; omega
  rw [take_snocN _ _ hj, hg]
  apply L_congr
  intro k
  rw [Int.toNat_natCast, Bool.true_and]
  clear hy hg
  generalize ys.getD j 0 = y
  generalize ys.take j = t
  rw [Bool.or_assoc]
  congr 1
  rw [Bool.eq_iff_iff]
  simp
/-- One more of the other list. -/
theorem or_step (p q : Nat → Bool) (j : Nat) (hj : j < (L q).length) :
    (L fun k => (p k || ((L q).take j).contains k) || (good (((L q).getD j 0 : Nat) : Int) && k == ((((L q).getD j 0 : Nat) : Int)).toNat)) = L fun k => p k || ((L q).take (j + 1)).contains k :=
  or_more p (L q) j hj (L_getD hj)
theorem or_end (p q : Nat → Bool) : (L fun k => p k || ((L q).take (L q).length).contains k) = L fun k => p k || q k := by
  rw [List.take_length]
  exact L_congr_on fun k hk => by rw [contains_L q k hk]
theorem or_zero (p q : Nat → Bool) : (L fun k => p k || ((L q).take 0).contains k) = L p := L_congr fun k => by rw [List.take_zero]; simp
end Go.Proofs.YtieinedancdokacDoor
/-
  THE WORDS OF A RISING LIST, one number after the other. Mathematics alone.
-/
namespace Go.Proofs.YtieinedancdokacDoor
open Go.ChangeShapes Go.WideShapes Go.ChangeAt Go.RowKit

theorem add_or (x k : Nat) (h : x.testBit k = false) : x + 2 ^ k = x ||| 2 ^ k := by
  have hb : x = 2 ^ (k + 1) * (x / 2 ^ (k + 1)) + x % 2 ^ k := by
    have h1 : x % 2 ^ (k + 1) = x % 2 ^ k := by
      apply Nat.eq_of_testBit_eq
      intro j
      rw [Nat.testBit_mod_two_pow, Nat.testBit_mod_two_pow]
      by_cases hj : j < k
      · simp [hj, show j < k + 1 by omega]
      · by_cases hk : j = k
        · subst hk; simp [h]
        · simp [show ¬ j < k by omega, show ¬ j < k + 1 by omega]
    have := Nat.div_add_mod x (2 ^ (k + 1))
    omega
  apply Nat.eq_of_testBit_eq
  intro j
  rw [Nat.testBit_or, Nat.testBit_two_pow]
  have hl : x % 2 ^ k + 2 ^ k < 2 ^ (k + 1) := by
    have := Nat.mod_lt x (Nat.two_pow_pos k)
    rw [Nat.pow_succ]; omega
  have hl0 : x % 2 ^ k < 2 ^ (k + 1) := by omega
  have e1 : x + 2 ^ k = 2 ^ (k + 1) * (x / 2 ^ (k + 1)) + (2 ^ k * 1 + x % 2 ^ k) := by omega
  rw [e1, Nat.testBit_two_pow_mul_add _ (by omega)]
  conv => rhs; rw [hb, Nat.testBit_two_pow_mul_add _ hl0]
  by_cases hj : j < k + 1
  · rw [if_pos hj, if_pos hj, Nat.testBit_two_pow_mul_add _ (Nat.mod_lt x (Nat.two_pow_pos k))]
    by_cases hk : j < k
    · rw [if_pos hk]
      have : decide (k = j) = false := by simp; omega
      rw [this, Bool.or_false]
    · obtain rfl : j = k := by omega
      rw [if_neg (by omega)]; simp
  · rw [if_neg hj, if_neg hj]
    have : decide (k = j) = false := by simp; omega
    rw [this, Bool.or_false]
/-- The words of some numbers, none of them 0 at the end. -/
structure Wd (us t : List Nat) : Prop where
  fit : Fit us
  is : ∀ k, has us k = t.contains k
  last : 0 < us.length → us.getD (us.length - 1) 0 ≠ 0
theorem Wd.none : Wd [] [] := ⟨⟨by simp, by simp⟩, fun k => by rw [has_end (by simp)]; rfl, fun h => by simp at h⟩
theorem bit_of {x : Nat} (hx : x < 18446744073709551616) (h : x ≠ 0) : ∃ j, j < 64 ∧ x.testBit j = true := by
  rcases Classical.em (∃ j, j < 64 ∧ x.testBit j = true) with h1 | h1
  · exact h1
  · exfalso
    apply h
    refine eq_bits hx (by omega) fun j hj => ?_
    cases hb : x.testBit j with
    | false => simp
    | true => exact absurd ⟨j, hj, hb⟩ h1
theorem Wd.short {us t : List Nat} (h : Wd us t) {y : Nat} (ht : ∀ k ∈ t, k < y) : us.length ≤ y / 64 + 1 := by
  rcases Nat.eq_zero_or_pos us.length with h0 | h0
  · omega
  · obtain ⟨j, hj, hb⟩ := bit_of (h.fit.at (us.length - 1)) (h.last h0)
    have hk : has us (64 * (us.length - 1) + j) = true := by
      unfold has
      rw [show (64 * (us.length - 1) + j) / 64 = us.length - 1 by omega, show (64 * (us.length - 1) + j) % 64 = j by omega]
      exact hb
    rw [h.is, List.contains_iff_mem] at hk
    have := ht _ hk
    omega
/-- One more number, greater than all. -/
theorem Wd.step {us t : List Nat} (h : Wd us t) {y : Nat} (hy : y < 65536) (ht : ∀ k ∈ t, k < y) :
    Wd ((us ++ List.replicate (y / 64 + 1 - us.length) 0).set (y / 64) ((us ++ List.replicate (y / 64 + 1 - us.length) 0).getD (y / 64) 0 + 2 ^ (y % 64))) (t ++ [y]) ∧
      (us ++ List.replicate (y / 64 + 1 - us.length) 0).length = y / 64 + 1 := by
  have hs := h.short ht
  have hl : (us ++ List.replicate (y / 64 + 1 - us.length) 0).length = y / 64 + 1 := by simp; omega
  have hz := fun k => has_zeros us (y / 64 + 1 - us.length) k
  have hf := h.fit.zeros (y / 64 + 1 - us.length) (by omega)
  have hno : ((us ++ List.replicate (y / 64 + 1 - us.length) 0).getD (y / 64) 0).testBit (y % 64) = false := by
    have e := hz y
    rw [h.is] at e
    have hc : t.contains y = false := by
      cases hc : t.contains y with
      | false => rfl
      | true =>
        have := ht y (by simpa using hc)
        omega
    rw [hc] at e
    exact e
  refine ⟨?_, hl⟩
  rw [add_or _ _ hno]
  generalize us ++ List.replicate (y / 64 + 1 - us.length) 0 = vs at *
  refine ⟨hf.set _ _ (or_lt _ _ (hf.at _) (by omega)), fun k => ?_, fun _ => ?_⟩
  · rw [has_set_or vs y k (by omega), hz, h.is]
    rw [Bool.eq_iff_iff]; simp
  · rw [List.length_set, hl, Nat.add_sub_cancel, getD_set _ _ _ _ (by omega), if_pos rfl]
    intro e
    have := congrArg (Nat.testBit · (y % 64)) e
    simp [Nat.testBit_or] at this
end Go.Proofs.YtieinedancdokacDoor
/-
  THE WORDS OF A RISING LIST, as the reference makes them: by contract.
-/
namespace Go.Proofs.YtieinedancdokacDoor
open Go.ChangeShapes Go.WideShapes Go.ChangeAt Go.RowKit

def wl (us : List Nat) : List Value := us.map fun (x : Nat) => Value.int .u64 (x : Int)
theorem wl_len (us : List Nat) : (wl us).length = us.length := by simp [wl]
theorem wl_snoc (us : List Nat) (c : Nat) : wl (us ++ List.replicate (c + 1) 0) = wl (us ++ List.replicate c 0) ++ [.int .u64 0] := by
  rw [List.replicate_succ', ← List.append_assoc]; simp [wl]
theorem range_pair (N : Nat) (r : Nat → Bool) : ((List.range N).filter r).Pairwise (· < ·) := List.Pairwise.filter _ List.pairwise_lt_range
theorem L_pair (r : Nat → Bool) : (L r).Pairwise (· < ·) := range_pair 65536 r
theorem L_rises {r : Nat → Bool} {j : Nat} (hj : j < (L r).length) : ∀ k ∈ (L r).take j, k < (L r).getD j 0 := by
  intro k hk
  have hp : (L r).Pairwise (· < ·) := L_pair r
  generalize L r = xs at *
  have e : xs.getD j 0 = xs[j] := by rw [List.getD_eq_getElem?_getD, List.getElem?_eq_getElem hj]; rfl
  rw [e]
  obtain ⟨i, hi, rfl⟩ := List.getElem_of_mem hk
  rw [List.length_take] at hi
  rw [List.getElem_take]
  exact List.pairwise_iff_getElem.1 hp i j (by omega) hj (by omega)
theorem own_slice {w : World} {base : Nat} {e : TypeId} {v : Value} {n : Nat} {xs : List Value} (h : w.ownsRow base e 1 v n xs) : ∃ a c, v = .slice a n c := by
  obtain ⟨a, c, h1, _⟩ := holds_of_owns h
  have h2 := h.1
  rw [Nat.mul_one] at h2
  exact ⟨a, c, by rw [h1, h2]⟩
theorem wl_set (us : List Nat) (i x : Nat) : (wl us).set i (.int .u64 (x : Int)) = wl (us.set i x) := by
  simp [wl, List.map_set]
theorem wl_at (us : List Nat) (i : Nat) (h : i < us.length) : (wl us)[i]? = some (.int .u64 ((us.getD i 0 : Nat) : Int)) := by
  simp [wl, h, List.getD]
/-- One step of the words, over the numbers of one element. -/
structure Bit (us t : List Nat) (y yi yr : Nat) : Prop where
  fitI : yi < 1024
  fitR : yr < 64
  q1 : (y : Int) / 64 = (yi : Int)
  q2 : (y : Int) % 64 = (yr : Int)
  short : us.length ≤ yi + 1
  len : (us ++ List.replicate (yi + 1 - us.length) 0).length = yi + 1
  sum : (us ++ List.replicate (yi + 1 - us.length) 0).getD yi 0 + 2 ^ yr < 18446744073709551616
  step : Wd ((us ++ List.replicate (yi + 1 - us.length) 0).set yi ((us ++ List.replicate (yi + 1 - us.length) 0).getD yi 0 + 2 ^ yr)) t
theorem bit_step {us t : List Nat} (h : Wd us t) {y : Nat} (hy : y < 65536) (ht : ∀ k ∈ t, k < y) {t2 : List Nat} (h2 : t2 = t ++ [y]) : ∃ yi yr : Nat, Bit us t2 y yi yr := by
  subst h2
  have h1 := h.step hy ht
  have h3 := h1.1.fit.at (y / 64)
  rw [getD_set _ _ _ _ (by rw [h1.2]; omega), if_pos rfl] at h3
  exact ⟨y / 64, y % 64, by omega, by omega, by omega, by omega, h.short ht, h1.2, h3, h1.1⟩
def sliceLen : Value → Nat
  | .slice _ n _ => n
  | _ => 0
set_option maxHeartbeats 1600000 in
theorem rwords_c (v : Value) (r : Nat → Bool) (w : World) (h1 : Holds w v (ints (L r))) : Calls Tryd.prog 18 #[v] w fun e w' =>
    ∃ v', e = .returned v' ∧ ∃ us, Wd us (L r) ∧ Holds w' v' (wl us) ∧ Below w.heap.size w w' := by
  obtain ⟨i0, hi, hz0, hz1, hz2⟩ := info_parts infoU64
  obtain ⟨a, cap, rfl, hrow⟩ := h1
  rw [ints_len]
  have hlp := L_len r
  have hy : Hid (∀ j, j < (L r).length → (L r).getD j 0 < 65536 ∧ ∀ k ∈ (L r).take j, k < (L r).getD j 0) := fun j hj => ⟨L_getD hj, L_rises hj⟩
  generalize L r = xs at *
  replace hlp := hidden hlp
  go_enter Tryd.func18, Tryd.ntmps18
  go_wp2_with fail
  go_loopw [3, 4] (fun u i wr => ∃ (j : Nat) (us : List Nat), j ≤ xs.length ∧ i = .int .i64 (j : Int) ∧ Hid (Wd us (xs.take j)) ∧ Hid (wr.ownsRow w.heap.size 44 1 u us.length (wl us)) ∧ Hid (Below w.heap.size w wr)) (fun _ i _ => xs.length - (intOf i).toNat)
  case atStart => exact ⟨0, [], Nat.zero_le _, rfl, Wd.none, World.ownsRow_made w #[] 0 (Nat.le_refl _) (by unfold maxLen; omega) rfl, (Below.refl _ _).alloc (Nat.le_refl _) _⟩
  case round =>
    obtain ⟨j, us, hj, rfl, hW, hown, hB⟩ := hrel
    by_cases hlt : j < xs.length
    · rcases hrow with h0 | ⟨b, off, rfl, hb, hc⟩
      · have := congrArg List.length h0
        rw [ints_len] at this; simp only [List.length_nil] at this; omega
      obtain ⟨hy1, hy2⟩ := hy.out j hlt
      have hcx0 := hidden (hc j _ (ints_at xs j hlt))
      have hj1 : (j : Int) < (xs.length : Int) := by omega
      have hj9 : (j : Int) ≤ 65536 := by have := hlp.out; omega
      have hts := take_snocN xs j hlt
      obtain ⟨y, hyd⟩ : ∃ y, xs.getD j 0 = y := ⟨_, rfl⟩
      rw [hyd] at hy1 hy2 hcx0 hts
      clear hyd
      obtain ⟨yi, yr, hbit⟩ := bit_step hW.out hy1 hy2 hts
      have q1 := hbit.q1
      have q2 := hbit.q2
      have hyi := hbit.fitI
      have hyr := hbit.fitR
      have hshort := hbit.short
      replace hbit := hidden hbit
      have hbB : Hid (b < w.heap.size) := hb
      clear hc hts hy2 hb hj hlt hW
      have hy0 : (0 : Int) ≤ (y : Int) := by omega
      have hy9 : (y : Int) ≤ 65535 := by omega
      clear hy1
      go_wp2_with fail
      go_loopw [3] (fun u wr => ∃ (m : Nat) (a : Option Addr) (c : Nat), us.length ≤ m ∧ m ≤ yi + 1 ∧ u = .slice a m c ∧ Hid (wr.ownsRow w.heap.size 44 1 (.slice a m c) m (wl (us ++ List.replicate (m - us.length) 0))) ∧ Hid (Below w.heap.size w wr)) (fun u _ => yi + 1 - sliceLen u)
      case atStart =>
        obtain ⟨a0, c0, e0⟩ := own_slice hown.out
        have hown1 := hown.out
        rw [e0] at hown1
        exact ⟨us.length, a0, c0, Nat.le_refl _, hshort, e0, (by show World.ownsRow _ _ _ _ _ _ _; rw [Nat.sub_self]; simpa using hown1), hB⟩
      case round =>
        obtain ⟨m, a, ca, hm1, hm2, rfl, hown1, hB1⟩ := hrel
        have hcx := (hB1.out.cell (p := ⟨b, off + j, none⟩) hbB.out).trans hcx0.out
        by_cases hmi : m ≤ yi
        · have hm3 : (m : Int) ≤ (yi : Int) := by omega
          have hown3 := hown1.out
          have hszw := hB1.out.size
          have hq1 := hidden hm1
          have hq2 := hidden hm2
          have hq3 := hidden hmi
          clear hm1 hm2 hmi hshort
          go_wp2_with (at_builtin; refine wpList_append_own _ rfl _ _ 37 rfl w.heap.size 44 i0 (.int .u64 0) 1 8 Tryd.underlying37 hi hz0 hz1 hz2 rfl (by decide) _ _ _ rfl (hown3.alloc _) ⟨wr.heap.size, 0, none⟩ 1 1 [.int .u64 0] rfl rfl (cell_one_new _ _ _) ?c2 ?c3 ?c4 ?c5 ?_)
          case c2 => intro u hu; simp at hu; subst hu; rfl
          case c3 => unfold maxLen; omega
          case c4 => omega
          case c5 => simp; omega
          intro v' w3 hown' hgrow _
          have hB3 : Hid (Below w.heap.size w w3) := (hB1.out.alloc hszw _).grown hgrow (by simp; omega) (fun k hk => (hown3.lt k hk).1)
          obtain ⟨a', c', e'⟩ := own_slice hown'
          subst e'
          have hnext : Hid (w3.ownsRow w.heap.size 44 1 (.slice a' (m + 1) c') (m + 1) (wl (us ++ List.replicate (m + 1 - us.length) 0))) := by
            show World.ownsRow _ _ _ _ _ _ _
            have := hq1.out
            rw [show m + 1 - us.length = (m - us.length) + 1 by omega, wl_snoc]; exact hown'
          clear hown' hgrow hown1 hown3 hcx hm3 hB1 hszw
          go_wp2
          go_roundw
          case rel => exact ⟨m + 1, a', c', by have := hq1.out; omega, by have := hq3.out; omega, rfl, hnext, hB3⟩
          case measure => simp only [sliceLen]; have := hq3.out; omega
        · obtain rfl : m = yi + 1 := by omega
          have hm3 : ¬ (((yi + 1 : Nat) : Int)) ≤ (yi : Int) := by omega
          have hown2 := hown1.out
          clear hown1 hown hmi hm1 hm2 hB hshort
          obtain ⟨vs, hvs⟩ : ∃ vs, us ++ List.replicate (yi + 1 - us.length) 0 = vs := ⟨_, rfl⟩
          rw [hvs] at hown2
          replace hvs := hidden hvs
          replace hown2 := hidden hown2
          go_wp2_with fail
          go_loop [5, 6] (fun p k => ∃ c : Nat, c ≤ yr ∧ k = .int .i64 (c : Int) ∧ p = .int .u64 ((2 ^ c : Nat) : Int)) (fun _ k => yr - (intOf k).toNat)
          case atStart => exact ⟨0, Nat.zero_le _, rfl, rfl⟩
          case round =>
            obtain ⟨c, hc, rfl, rfl⟩ := hrel
            by_cases hci : c < yr
            · have hc1 : (c : Int) < (yr : Int) := by omega
              have hP : 2 ^ c < 9223372036854775808 := Nat.pow_lt_pow_right (n := 63) (by omega) (by omega)
              have hPP : Hid (2 ^ (c + 1) = 2 * 2 ^ c) := by show _ = _; rw [Nat.pow_succ]; omega
              generalize 2 ^ c = P at *
              have hP1 : (P : Int) < 9223372036854775808 := by omega
              clear hP
              go_wp2
              go_round
              case rel => exact ⟨c + 1, by omega, by go_num, by rw [hPP.out]; go_num⟩
              case measure => simp [intOf]; omega
            · obtain rfl : c = yr := by omega
              have hc1 : ¬ (c : Int) < (c : Int) := by omega
              obtain ⟨g, cc, e, hgb, hgc⟩ := own_some hown2.out (by intro e; cases e)
              cases e
              obtain ⟨w2, hw2⟩ : ∃ w2, w2 = wr.drew := ⟨_, rfl⟩
              have hownd : w2.ownsRow w.heap.size 44 1 (.slice (some ⟨g, 0, none⟩) (yi + 1) ca) (yi + 1) (wl vs) := by rw [hw2]; exact hown2.out
              have hst := hownd.stored yi (.int .u64 ((vs.getD yi 0 + 2 ^ c : Nat) : Int))
              have hlenv : vs.length = yi + 1 := by rw [← hvs.out]; exact hbit.out.len
              have hz0' : vs.getD yi 0 + 2 ^ c < 18446744073709551616 := by rw [← hvs.out]; exact hbit.out.sum
              rw [wl_set] at hst
              have d1 := hownd.cellAt yi (by omega)
              rw [wl_at vs yi (by omega)] at d1
              have d2 := hownd.frozenAt yi
              have hWn := hidden hbit.out.step
              rw [hvs.out] at hWn
              have hln : Hid ((vs.set yi (vs.getD yi 0 + 2 ^ c)).length = yi + 1) := by show _ = _; rw [List.length_set]; exact hlenv
              clear hlenv
              have hsum : Hid (((vs.getD yi 0 : Nat) : Int) + ((2 ^ c : Nat) : Int) = ((vs.getD yi 0 + 2 ^ c : Nat) : Int)) := by show _ = _; omega
              generalize vs.getD yi 0 + 2 ^ c = S at *
              generalize 2 ^ c = P at *
              generalize vs.getD yi 0 = z at *
              have hs1 : (z : Int) + (P : Int) < 18446744073709551616 := by rw [hsum.out]; omega
              have hyi1 : (yi : Int) < ((yi + 1 : Nat) : Int) := by omega
              have hst2 := hidden hst.1
              have hBn : Hid (Below w.heap.size w (w2.setCell ⟨g, yi, none⟩ (.int .u64 (S : Int)))) := (show Below w.heap.size w w2 by rw [hw2]; exact hB1.out.drew).setCell hgb _
              clear hst hz0' hgb hgc hown2 hB1 hvs hbit hownd
              have d0 : w2.cell? ⟨b, off + j, none⟩ = some (.int .i64 (y : Int)) := by rw [hw2]; exact hcx
              replace hw2 := hidden hw2
              have d0 := hidden d0
              have d1 := hidden d1
              have d2 := hidden d2
              clear hc1
              go_wp2_with fail
              replace d0 := d0.out
              replace d1 := d1.out
              replace d2 := d2.out
              have ew : IntKind.i64.wrap (yi : Int) = (yi : Int) := IntWalk.i64_in _ (by omega)
              have eu : IntKind.u64.wrap ((z : Int) + (P : Int)) = (S : Int) := by rw [IntWalk.u64_in _ (by omega)]; exact hsum.out
              refine still_tail2 17 (by kernel_rfl) (by kernel_rfl) w2 hw2.out ?_
              clear hw2
              simp only [List.take_succ_cons, List.take_zero, List.drop_succ_cons, List.drop_zero]
              repeat still_step
              refine wpStill_nil ?_
              clear ew eu d0 d1 d2 q1 q2
              go_wp2
              go_roundw
              case rel => exact ⟨j + 1, _, by omega, by go_num, hWn, (by show World.ownsRow _ _ _ _ _ _ _; rw [hln.out]; exact hst2.out), hBn⟩
              case measure => simp [intOf]; omega
    · have hj1 : ¬ (j : Int) < (xs.length : Int) := by omega
      obtain rfl : j = xs.length := by omega
      have hfin := hidden (holds_of_owns hown.out)
      have hWf := hW.out
      rw [List.take_length] at hWf
      replace hWf := hidden hWf
      clear hown hW
      go_wp2
      go_ret
      exact ⟨_, rfl, us, hWf.out, hfin.out, hB.out⟩
end Go.Proofs.YtieinedancdokacDoor
/-
  SETS AND RISING LISTS, each call in one form: what it returns holds a rising list, and all that lay there lies there.
-/
namespace Go.Proofs.YtieinedancdokacDoor
open Go.ChangeShapes Go.WideShapes Go.ChangeAt Go.RowKit

theorem ints_map (xs : List Nat) : ints xs = (xs.map Int.ofNat).map (Value.int .i64) := by simp [ints]
theorem wl_map (xs : List Nat) : wl xs = (xs.map Int.ofNat).map (Value.int .u64) := by simp [wl]
theorem map_nat_eq (xs ys : List Nat) : xs.map Int.ofNat = ys.map Int.ofNat ↔ xs = ys :=
  ⟨fun h => (List.map_inj_right (fun _ _ h => Int.ofNat.inj h)).1 h, fun h => by rw [h]⟩
theorem L_same (p q : Nat → Bool) : L p = L q ↔ ∀ k, k < 65536 → p k = q k := by
  constructor
  · intro h k hk
    rw [← contains_L p k hk, ← contains_L q k hk, h]
  · intro h
    exact List.filter_congr fun k hk => h k (List.mem_range.1 hk)
/-- Whether they are the same is a given answer. -/
theorem rsameL_c (va vb : Value) (p q : Nat → Bool) (sm : Bool) (hsm : sm = true ↔ ∀ k, k < 65536 → p k = q k) (w : World) (ha : Holds w va (ints (L p))) (hb : Holds w vb (ints (L q))) :
    Calls Tryd.prog 14 #[va, vb] w fun e w' => e = .returned (.bool sm) ∧ Below w.heap.size w w' := by
  have l1 := L_len p
  have l2 := L_len q
  rw [ints_map] at ha hb
  have := same_c va vb _ _ w ha hb (by simp; omega) (by simp; omega)
  have e : decide ((L p).map Int.ofNat = (L q).map Int.ofNat) = sm := by
    rw [Bool.eq_iff_iff, decide_eq_true_eq, map_nat_eq, L_same, hsm]
  rwa [e] at this
theorem rsameT_c (va vb : Value) (p q : Nat → Bool) (h : ∀ k, k < 65536 → p k = q k) (w : World) (ha : Holds w va (ints (L p))) (hb : Holds w vb (ints (L q))) :
    Calls Tryd.prog 14 #[va, vb] w fun e w' => e = .returned (.bool true) ∧ Below w.heap.size w w' :=
  rsameL_c va vb p q true ⟨fun _ => h, fun _ => rfl⟩ w ha hb
theorem wsame_c (va vb : Value) (xs ys : List Nat) (sm : Bool) (hsm : sm = true ↔ xs = ys) (w : World) (ha : Holds w va (wl xs)) (hb : Holds w vb (wl ys)) (hx : xs.length ≤ 1024) (hy : ys.length ≤ 1024) :
    Calls Tryd.prog 16 #[va, vb] w fun e w' => e = .returned (.bool sm) ∧ Below w.heap.size w w' := by
  rw [wl_map] at ha hb
  have := sameu_c va vb _ _ w ha hb (by simp; omega) (by simp; omega)
  have e : decide (xs.map Int.ofNat = ys.map Int.ofNat) = sm := by
    rw [Bool.eq_iff_iff, decide_eq_true_eq, map_nat_eq, hsm]
  rwa [e] at this
theorem listL_c (b : Nat) (g : Option Nat) (ws : List Nat) (p : Nat → Bool) (w : World) (hf : Fit ws) (hp : ∀ k, has ws k = p k) (h : SetAt w b g ws) (hT : TabAt 0 Lib.deBruijn64tab w) :
    Calls Tryd.prog 15 #[.pointer (some ⟨b, 0, none⟩)] w fun e w' => ∃ v, e = .returned v ∧ Holds w' v (ints (L p)) ∧ Below w.heap.size w w' := by
  have := list_c b g ws w hf h hT
  rwa [told_L ws hf, L_congr hp] at this
/-- Words as they are told: of a set's words those that are left. -/
theorem wordsH_c (b : Nat) (g : Option Nat) (ws : List Nat) (w : World) (hf : Fit ws) (h : SetAt w b g ws) : Calls Tryd.prog 17 #[.pointer (some ⟨b, 0, none⟩)] w fun e w' =>
    ∃ v m, e = .returned v ∧ Trim ws m ∧ Holds w' v (wl (ws.take m)) ∧ Below w.heap.size w w' := by
  refine (words_c b g ws w hf h).mono ?_
  rintro e w' ⟨m, x, rfl, hT, hx, hc, hB⟩
  have hl : (wl (ws.take m)).length = m := by rw [wl_len, List.length_take]; have := hT.le; omega
  refine ⟨_, m, rfl, hT, ⟨_, m, by rw [hl], .inr ⟨x, 0, rfl, (Array.getElem?_eq_some_iff.1 hc).1, fun j u hj => ?_⟩⟩, hB⟩
  have : w'.cell? ⟨x, j, none⟩ = (wv (ws.take m))[j]? := by simp [World.cell?, hc]
  rw [Nat.zero_add, this]
  rw [← hj]
  simp [wv, wl]
theorem trim_wd {ws us t : List Nat} {m : Nat} {p : Nat → Bool} (hf : Fit ws) (h1 : Trim ws m) (hp : ∀ k, has ws k = p k) (hW : Wd us (L p)) (ht : t = ws.take m) : t = us := by
  have h2 : Trim us us.length := ⟨Nat.le_refl _, fun i hi => by rw [List.getD_eq_getElem?_getD, List.getElem?_eq_none hi]; rfl, hW.last⟩
  have := (trim_same hf hW.fit h1 h2).2 fun k => by
    rcases Nat.lt_or_ge k 65536 with hk | hk
    · rw [hW.is, contains_L p k hk, hp]
    · rw [has_high hf hk, has_high hW.fit hk]
  rw [List.take_length] at this
  rw [ht, this]
end Go.Proofs.YtieinedancdokacDoor
