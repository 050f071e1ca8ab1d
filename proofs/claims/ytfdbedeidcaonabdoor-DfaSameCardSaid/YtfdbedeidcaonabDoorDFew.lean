/-
  AN AUTOMATON COPIED, by contract.
-/
import Derived.Test.YtfdbedeidcaonabDoorDRel2
namespace Go.Proofs.YtfdbedeidcaonabDoor
open Go.ChangeShapes Go.WideShapes Go.ChangeAt Go.RowKit

set_option maxHeartbeats 25600000 in
set_option maxRecDepth 100000 in
theorem dfew_c (sv nv av : Value) (d : Df) (w : World) (hv : HoldsD w sv nv av d) (hw : d.wf) :
    Calls Tryd.prog 4 #[.agg #[sv, nv, av]] w fun e w' => ∃ sv' nv' av', e = .returned (.agg #[sv', nv', av']) ∧ (∃ vs, OwnD w.heap.size d.few vs sv' nv' av' w') ∧ Below w.heap.size w w' := by
  obtain ⟨h1, h2, h3⟩ := hv
  obtain ⟨hw1, hw2, hw3, hw4⟩ := hw
  obtain ⟨is, his, hs0, hs1, hs2⟩ := info_parts infoS
  obtain ⟨ir, hir, hr0, hr1, hr2⟩ := info_parts infoR
  obtain ⟨ib, hib, hb0, hb1, hb2⟩ := info_parts infoB
  obtain ⟨sa, sc, rfl, hs⟩ := h1
  obtain ⟨na, nc, rfl⟩ := h2.slice
  obtain ⟨ba, bc, rfl, hb⟩ := h3
  have hN := hidden h2
  replace hs := hidden hs
  replace hb := hidden hb
  replace hw3 := hidden hw3
  obtain ⟨t1, t2, t3, t4⟩ := threeD w #[.slice sa d.ss.length sc, .slice na d.ns.length nc, .slice ba d.ac.length bc] #[.slice none 0 0, .slice none 0 0, .slice none 0 0] 26
  have hD0 : Hid (D1 (.slice sa d.ss.length sc) (.slice na d.ns.length nc) (.slice ba d.ac.length bc) (.slice none 0 0) (.slice none 0 0) (.slice none 0 0) [] [] [] [] w _) := ⟨t4, t1, t2, t3, World.ownsRow_nil .., ⟨World.ownsRow_nil .., rfl, fun i hi => by simp at hi⟩, World.ownsRow_nil ..⟩
  clear t1 t2 t3 t4 h2
  unfold maxLen at hw1 hw2 hw4
  go_enter Tryd.func4, Tryd.ntmps4
  go_wp2
  go_loopw [4] (fun i wr => ∃ (k : Nat) (us : Value), k ≤ d.ss.length ∧ k ≤ 5 ∧ i = .int .i64 k ∧ Hid (D1 (.slice sa d.ss.length sc) (.slice na d.ns.length nc) (.slice ba d.ac.length bc) us (.slice none 0 0) (.slice none 0 0) ((d.ss.take k).map Sy.few) [] [] [] w wr)) (fun i _ => d.ss.length - (intOf i).toNat)
  case atStart => exact ⟨0, _, Nat.zero_le _, Nat.zero_le _, rfl, hD0⟩
  case round =>
    clear hD0
    obtain ⟨k, us, hk, hk5, rfl, hl⟩ := hrel
    obtain ⟨⟨g0, g1, g2⟩, -⟩ := box3g hl.out.b1
    have hcnt : Hid (((d.ss.take k).map Sy.few).length = k) := by show _ = _; rw [List.length_map, List.length_take]; omega
    obtain ⟨ua, uc, rfl⟩ := shape_k hl.out.rs hcnt.out
    by_cases hlt : k < d.ss.length ∧ k < 5
    · obtain ⟨hm1, hm2⟩ := hlt
      obtain ⟨b5, o5, rfl, hb5, e0, e1⟩ := sym_at hs.out hm1
      have htm := hidden (take_snocR d.ss Sy.none k hm1)
      generalize d.ss.getD k Sy.none = q at *
      obtain ⟨qs, qb⟩ := q
      simp only at e0 e1
      have f0 := (hl.out.below.cell (p := ⟨b5, o5 + k * 2, none⟩) (by exact hb5)).trans e0
      have f1 := (hl.out.below.cell (p := ⟨b5, o5 + k * 2 + 1, none⟩) (by exact hb5)).trans e1
      have hcutp := fun z => cut_c qs 32 z (by decide)
      have hfe : Hid (Sy.few ⟨qs, qb⟩ = ⟨cutB qs 32, qb⟩) := hidden rfl
      generalize cutB qs 32 = cs at *
      have hlD := hidden (hl.out.step (Below.refl _ _).drew)
      have hlA := hidden (hlD.out.step ((Below.refl _ _).alloc (Nat.le_refl _) (.cells #[.string cs, .bool qb] 33)))
      have hb3 : Hid (wr.heap[w.heap.size + 1 + 1]? = some (.cells #[.slice ua k uc, .slice none 0 0, .slice none 0 0] 26)) := hl.out.b3
      obtain ⟨⟨x0, x1, x2⟩, -⟩ := box3g hb3.out
      clear e0 e1
      have z2 : ∀ o, (wr.alloc o).cell? ⟨w.heap.size + 1 + 1, 0, none⟩ = some (.slice ua k uc) := fun o => (World.cell?_alloc_lt _ _ _ (World.block_lt_of_cell? _ _ x0)).trans x0
      have z1 := World.new_ne _ _ x0
      go_wp2_with fail
      go_region_law (first
        | (refine step_wp (by rfl) (wp_call (vs := #[.string qs, .int .i64 32]) (by rfl) (fun _ _ => rfl) (by simp only [List.map_toArray, List.map_cons, List.map_nil] <;> rfl) ((hcutp _).mono ?_)); rintro e z ⟨rfl, rfl⟩; refine ⟨_, rfl, ?_⟩)
        | (refine step_append_own (by rfl) _ _ _ (by rfl) w.heap.size 33 is _ 2 24 Tryd.underlying22 his hs0 hs1 hs2 rfl (by decide) (.slice ua k uc) _ _ (by rfl) hlA.out.rs ⟨wr.heap.size, 0, none⟩ 1 1 [.string cs, .bool qb] (by rfl) (by rfl) (cells_new wr.drew [_, _] _) (by simp [Value.oneCell']) (by have := hcnt.out; unfold maxLen; omega) (by have := hcnt.out; omega) (by have := hlA.out.below.size; simp at *; omega) ?_; intro v' w6 hown6 hgrow6; obtain ⟨a9, c9, rfl⟩ := shape_k hown6 (show _ = k + 1 by rw [hcnt.out])
           have hb6 := box_grown hlA.out.b3 hlA.out.rs (by decide) hgrow6
           have hb7 : w6.heap[w.heap.size + 1 + 1]? = some (.cells #[.slice ua k uc, .slice none 0 0, .slice none 0 0] 26) := hb6
           obtain ⟨⟨r0, r1, r2⟩, q0, q1, q2⟩ := box3g hb7)
        | fail)
      all_goals
        have hl6 := hlA.out.syms (q := ⟨cs, qb⟩) hown6 hgrow6
        rw [show (d.ss.take k).map Sy.few ++ [⟨cs, qb⟩] = (d.ss.take (k + 1)).map Sy.few by rw [htm.out, List.map_append, ← hfe.out]; rfl] at hl6
        replace hl6 := hidden hl6
        clear hown6 hgrow6 hb6 hb7 r0 r1 r2 q0 q1 q2 x0 x1 x2 hb3 z1 z2 hlA hlD hl g0 g1 g2 f0 f1 htm hfe hcnt hcutp
        go_wp2
        go_roundw
        case rel => exact ⟨k + 1, _, by omega, by omega, by go_num, hl6⟩
        case measure => simp [intOf]; omega
    · have e5 : d.ss.take 5 = d.ss.take k := by
        by_cases h : k < d.ss.length
        · obtain rfl : k = 5 := by omega
          rfl
        · rw [List.take_of_length_le (by omega), List.take_of_length_le (by omega)]
      have hl2 := hl.out
      rw [← e5] at hl2
      replace hl2 := hidden hl2
      have hb3 : Hid (wr.heap[w.heap.size + 1 + 1]? = some (.cells #[.slice ua k uc, .slice none 0 0, .slice none 0 0] 26)) := hl.out.b3
      clear hl e5 hcnt
      by_cases hm3 : k < d.ss.length
      all_goals
        first
          | (have hi5 : ¬ (k : Int) < 5 := by omega)
          | (have hi5 : ¬ (k : Int) < (d.ss.length : Int) := by omega)
        first
          | (have hi6 : (k : Int) < (d.ss.length : Int) := by omega)
          | skip
        clear hlt
        go_wp2_with fail
        obtain ⟨SS, hSS⟩ : ∃ SS, Hid (SS = (d.ss.take 5).map Sy.few) := ⟨_, (rfl : _ = _)⟩
        rw [← hSS.out] at hl2
        go_loopw [5] (fun i x => ∃ (m : Nat) (un : Value) (vs : List RwV), m ≤ d.ns.length ∧ m ≤ 9 ∧ i = .int .i64 m ∧ Hid (D1 (.slice sa d.ss.length sc) (.slice na d.ns.length nc) (.slice ba d.ac.length bc) (.slice ua k uc) un (.slice none 0 0) SS vs ((d.ns.take m).map (·.take 6)) [] w x)) (fun i _ => d.ns.length - (intOf i).toNat)
        case atStart => exact ⟨0, _, [], Nat.zero_le _, Nat.zero_le _, rfl, hl2⟩
        case round =>
          clear hl2 g0 g1 g2 hb3
          obtain ⟨m, un, vs, hm, hm9, rfl, hl⟩ := hrel
          obtain ⟨⟨g0, g1, g2⟩, -⟩ := box3g hl.out.b1
          have hvl : Hid (vs.length = m) := by show _ = _; rw [hl.out.rn.len, List.length_map, List.length_take]; omega
          obtain ⟨na2, nc2, rfl⟩ := shape_k hl.out.rn.row hvl.out
          have hb3 : Hid (wr.heap[w.heap.size + 1 + 1]? = some (.cells #[.slice ua k uc, .slice na2 m nc2, .slice none 0 0] 26)) := hl.out.b3
          by_cases hlt : m < d.ns.length ∧ m < 9
          · obtain ⟨hm1, hm2⟩ := hlt
            have hm1' : (m : Int) < (d.ns.length : Int) := by omega
            obtain ⟨b5, o5, pa, pn, pc, rfl, hb5, e0, hrow⟩ := rows_at hN.out hm1
            have htm := hidden (take_snocR d.ns [] m hm1)
            have hpl : (d.ns.getD m []).length ≤ 9223372036854775807 := by
              have e : d.ns.getD m [] = d.ns[m] := by simp [List.getD, hm1]
              rw [e]
              have := (hw3.out _ (List.getElem_mem hm1)).1
              unfold maxLen at this; omega
            generalize d.ns.getD m [] = q at *
            have f0 := (hl.out.below.cell (p := ⟨b5, o5 + m, none⟩) (by exact hb5)).trans e0
            obtain ⟨pa', pc', heq, hprow⟩ := hrow
            simp only [Value.slice.injEq] at heq
            obtain ⟨rfl, rfl, rfl⟩ := heq
            have hfw := few_c (.slice pa q.length pc) q 6 wr.drew (HoldsR.ints ⟨pa, pc, rfl, (hprow.below hl.out.below).below (Below.refl _ _).drew⟩) hpl (by omega)
            obtain ⟨Q6, hQ6⟩ : ∃ Q6, Hid (Q6 = q.take 6) := ⟨_, (rfl : _ = _)⟩
            rw [← hQ6.out] at hfw
            have hlD := hidden (hl.out.step (Below.refl _ _).drew)
            obtain ⟨⟨x0, x1, x2⟩, -⟩ := box3g hb3.out
            replace hpl := hidden hpl
            replace hprow := hidden hprow
            clear e0
            go_wp2_with fail
            go_region_law (first
              | (refine step_wp (by rfl) (wp_call (vs := #[.slice pa q.length pc, .int .i64 6]) (by rfl) (fun _ _ => rfl) (by simp only [List.map_toArray, List.map_cons, List.map_nil] <;> rfl) (hfw.mono ?_)); rintro e z ⟨v5, rfl, hown5, hB5⟩; refine ⟨_, rfl, ?_⟩
                 obtain ⟨va, vc, rfl⟩ := own_shape hown5
                 have hlZ := hidden (hlD.out.step hB5)
                 have hr5 := hidden (own_base hown5 hl.out.below.size)
                 have hlA := hidden (hlZ.out.step ((Below.refl _ _).alloc (Nat.le_refl _) (.cells #[.slice va Q6.length vc] 28)))
                 have hb4 : z.heap[w.heap.size + 1 + 1]? = some (.cells #[.slice ua k uc, .slice na2 m nc2, .slice none 0 0] 26) := hlZ.out.b3
                 obtain ⟨⟨y0, y1, y2⟩, -⟩ := box3g hb4
                 have z2 : ∀ o, (z.alloc o).cell? ⟨w.heap.size + 1 + 1, 1, none⟩ = some (.slice na2 m nc2) := fun o => (World.cell?_alloc_lt _ _ _ (World.block_lt_of_cell? _ _ y1)).trans y1
                 have z1 := World.new_ne _ _ y1)
              | (refine step_append_own (by rfl) _ _ _ (by rfl) w.heap.size 28 ir _ 1 24 Tryd.underlying23 hir hr0 hr1 hr2 rfl (by decide) (.slice na2 m nc2) _ _ (by rfl) hlA.out.rn.row ⟨z.heap.size, 0, none⟩ 1 1 [.slice va Q6.length vc] (by rfl) (by rfl) (cells_new z [_] _) (by simp [Value.oneCell']) (by have := hvl.out; unfold maxLen; omega) (by have := hvl.out; omega) (by have := hlA.out.below.size; simp at *; omega) ?_; intro v' w6 hown6 hgrow6; obtain ⟨a9, c9, rfl⟩ := shape_k hown6 (show _ = m + 1 by rw [hvl.out])
                 have hb6 := box_grown hlA.out.b3 hlA.out.rn.row (by decide) hgrow6
                 have hb7 : w6.heap[w.heap.size + 1 + 1]? = some (.cells #[.slice ua k uc, .slice na2 m nc2, .slice none 0 0] 26) := hb6
                 obtain ⟨⟨r0, r1, r2⟩, q0, q1, q2⟩ := box3g hb7)
              | fail)
            all_goals
              have hl6 := hlA.out.rows (l := Q6) (by have h := owns_keep hr5.out ((Below.refl z.heap.size z).alloc (Nat.le_refl _) (.cells #[.slice va Q6.length vc] 28)); rw [← flat_ints] at h; exact h) hown6 hgrow6
              rw [show (d.ns.take m).map (·.take 6) ++ [Q6] = (d.ns.take (m + 1)).map (·.take 6) by rw [htm.out, List.map_append, hQ6.out]; rfl] at hl6
              replace hl6 := hidden hl6
              clear hown6 hgrow6 hb6 hb7 r0 r1 r2 q0 q1 q2 x0 x1 x2 y0 y1 y2 hb3 hb4 z1 z2 hlA hlZ hlD hl g0 g1 g2 f0 htm hvl hfw hr5 hown5 hB5
              go_wp2
              go_roundw
              case rel => exact ⟨m + 1, _, _, by omega, by omega, by go_num, hl6⟩
              case measure => simp [intOf]; omega
          · have e9 : d.ns.take 9 = d.ns.take m := by
              by_cases h : m < d.ns.length
              · obtain rfl : m = 9 := by omega
                rfl
              · rw [List.take_of_length_le (by omega), List.take_of_length_le (by omega)]
            have hl3 := hl.out
            rw [← e9] at hl3
            replace hl3 := hidden hl3
            obtain ⟨NS, hNS⟩ : ∃ NS, Hid (NS = (d.ns.take 9).map (·.take 6)) := ⟨_, (rfl : _ = _)⟩
            rw [← hNS.out] at hl3
            clear hl e9 hvl
            by_cases hm3 : m < d.ns.length
            all_goals
              first
                | (have hi7 : ¬ (m : Int) < 9 := by omega)
                | (have hi7 : ¬ (m : Int) < (d.ns.length : Int) := by omega)
              first
                | (have hi8 : (m : Int) < (d.ns.length : Int) := by omega)
                | skip
              clear hlt
              go_wp2_with fail
              go_loopw [6] (fun i x => ∃ (j : Nat) (av2 : Value), j ≤ d.ac.length ∧ j ≤ 9 ∧ i = .int .i64 j ∧ Hid (D1 (.slice sa d.ss.length sc) (.slice na d.ns.length nc) (.slice ba d.ac.length bc) (.slice ua k uc) (.slice na2 m nc2) av2 SS vs NS (d.ac.take j) w x)) (fun i _ => d.ac.length - (intOf i).toNat)
              case atStart => exact ⟨0, _, Nat.zero_le _, Nat.zero_le _, rfl, hl3⟩
              case round =>
                clear hl3 g0 g1 g2 hb3
                obtain ⟨j, av2, hj, hj9, rfl, hl⟩ := hrel
                obtain ⟨⟨g0, g1, g2⟩, -⟩ := box3g hl.out.b1
                have hal : Hid ((d.ac.take j).length = j) := by show _ = _; rw [List.length_take]; omega
                obtain ⟨ba2, bc2, rfl⟩ := shape_k hl.out.ra hal.out
                have hb3 : Hid (wr.heap[w.heap.size + 1 + 1]? = some (.cells #[.slice ua k uc, .slice na2 m nc2, .slice ba2 j bc2] 26)) := hl.out.b3
                by_cases hlt : j < d.ac.length ∧ j < 9
                · obtain ⟨hj1, hj2⟩ := hlt
                  have hj1' : (j : Int) < (d.ac.length : Int) := by omega
                  obtain ⟨b5, o5, rfl, hb5, e0⟩ := bool_at hb.out hj1
                  have htm := hidden (take_snocR d.ac false j hj1)
                  generalize d.ac.getD j false = q at *
                  have f0 := (hl.out.below.cell (p := ⟨b5, o5 + j, none⟩) (by exact hb5)).trans e0
                  have hlD := hidden (hl.out.step (Below.refl _ _).drew)
                  have hlA := hidden (hlD.out.step ((Below.refl _ _).alloc (Nat.le_refl _) (.cells #[.bool q] 4)))
                  obtain ⟨⟨x0, x1, x2⟩, -⟩ := box3g hb3.out
                  have z2 : ∀ o, (wr.alloc o).cell? ⟨w.heap.size + 1 + 1, 2, none⟩ = some (.slice ba2 j bc2) := fun o => (World.cell?_alloc_lt _ _ _ (World.block_lt_of_cell? _ _ x2)).trans x2
                  have z1 := World.new_ne _ _ x2
                  clear e0
                  go_wp2_with fail
                  go_region_law (first
                    | (refine step_append_own (by rfl) _ _ _ (by rfl) w.heap.size 4 ib _ 1 1 Tryd.underlying24 hib hb0 hb1 hb2 rfl (by decide) (.slice ba2 j bc2) _ _ (by rfl) hlA.out.ra ⟨wr.heap.size, 0, none⟩ 1 1 [.bool q] (by rfl) (by rfl) (cells_new wr.drew [_] _) (by simp [Value.oneCell']) (by have := hal.out; unfold maxLen; omega) (by have := hal.out; omega) (by have := hlA.out.below.size; simp at *; omega) ?_; intro v' w6 hown6 hgrow6; obtain ⟨a9, c9, rfl⟩ := shape_k hown6 (show _ = j + 1 by rw [hal.out])
                       have hb6 := box_grown hlA.out.b3 hlA.out.ra (by decide) hgrow6
                       have hb7 : w6.heap[w.heap.size + 1 + 1]? = some (.cells #[.slice ua k uc, .slice na2 m nc2, .slice ba2 j bc2] 26) := hb6
                       obtain ⟨⟨r0, r1, r2⟩, q0, q1, q2⟩ := box3g hb7)
                    | fail)
                  all_goals
                    have hl6 := hlA.out.accs (q := q) hown6 hgrow6
                    rw [show d.ac.take j ++ [q] = d.ac.take (j + 1) by rw [htm.out]] at hl6
                    replace hl6 := hidden hl6
                    clear hown6 hgrow6 hb6 hb7 r0 r1 r2 q0 q1 q2 x0 x1 x2 hb3 z1 z2 hlA hlD hl g0 g1 g2 f0 htm hal
                    go_wp2
                    go_roundw
                    case rel => exact ⟨j + 1, _, by omega, by omega, by go_num, hl6⟩
                    case measure => simp [intOf]; omega
                · have e10 : d.ac.take 9 = d.ac.take j := by
                    by_cases h : j < d.ac.length
                    · obtain rfl : j = 9 := by omega
                      rfl
                    · rw [List.take_of_length_le (by omega), List.take_of_length_le (by omega)]

                  have hl4 := hl.out
                  rw [← e10] at hl4
                  have s0 := set_heap hl4.b2 0 (.slice ua k uc)
                  have s1 := set_heap s0 1 (.slice na2 m nc2)
                  have hrs := hidden (set_heap s1 2 (.slice ba2 j bc2))
                  have hO : Hid (OwnD w.heap.size d.few vs (.slice ua k uc) (.slice na2 m nc2) (.slice ba2 j bc2) (((wr.setCell ⟨w.heap.size + 1, 0, none⟩ (.slice ua k uc)).setCell ⟨w.heap.size + 1, 1, none⟩ (.slice na2 m nc2)).setCell ⟨w.heap.size + 1, 2, none⟩ (.slice ba2 j bc2))) := by
                    refine ⟨?_, ?_, ?_⟩
                    · have h := own_set (own_set (own_set hl4.rs hl4.b2 (by decide) 0 (.slice ua k uc)) s0 (by decide) 1 (.slice na2 m nc2)) s1 (by decide) 2 (.slice ba2 j bc2)
                      rw [hSS.out] at h
                      exact h
                    · have h := (((hl4.rn.set hl4.b2 0 (.slice ua k uc)).set s0 1 (.slice na2 m nc2)).set s1 2 (.slice ba2 j bc2))
                      rw [hNS.out] at h
                      exact h
                    · exact own_set (own_set (own_set hl4.ra hl4.b2 (by decide) 0 (.slice ua k uc)) s0 (by decide) 1 (.slice na2 m nc2)) s1 (by decide) 2 (.slice ba2 j bc2)
                  have hBF := hidden (((hl4.below.setCell (p := ⟨w.heap.size + 1, 0, none⟩) (show w.heap.size ≤ w.heap.size + 1 by omega) (.slice ua k uc)).setCell (p := ⟨w.heap.size + 1, 1, none⟩) (show w.heap.size ≤ w.heap.size + 1 by omega) (.slice na2 m nc2)).setCell (p := ⟨w.heap.size + 1, 2, none⟩) (show w.heap.size ≤ w.heap.size + 1 by omega) (.slice ba2 j bc2))
                  obtain ⟨⟨o0, o1, o2⟩, -⟩ := box3g hb3.out
                  obtain ⟨⟨t0, t1, t2⟩, y0, y1, y2⟩ := box3g hl4.b2
                  clear hl hl4 s0 s1 e10 hb3 hal
                  by_cases hj3 : j < d.ac.length
                  all_goals
                    first
                      | (have hi9 : ¬ (j : Int) < 9 := by omega)
                      | (have hi9 : ¬ (j : Int) < (d.ac.length : Int) := by omega)
                    first
                      | (have hi0 : (j : Int) < (d.ac.length : Int) := by omega)
                      | skip
                    clear hlt
                    go_wp2
                    exact bodyPost_ret (results_cell_row rfl _ _ (w.heap.size + 1) _ _ _ _ rfl hrs.out Tryd.underlying26 rfl (by kernel_rfl)) rfl ⟨.slice ua k uc, .slice na2 m nc2, .slice ba2 j bc2, rfl, ⟨vs, hO.out⟩, hBF.out⟩
end Go.Proofs.YtfdbedeidcaonabDoor
