/-
  METERS: the reference's Add where the name is new, by contract.
-/
import Derived.Test.YtoijkbnjcnedjaaDoorMet6
namespace Go.Proofs.YtoijkbnjcnedjaaDoor
open Go.ChangeShapes Go.WideShapes Go.ChangeAt Go.RowKit Go.Maps

set_option maxHeartbeats 6400000 in
set_option maxRecDepth 100000 in
theorem raddNew_c {B : Nat} {b g : Nat} {c : Nat} {m : Int} {L : List Ct} (s : ByteArray) (n : Int) (w : World) (hbox : w.heap[b]? = some (.cells #[.slice (some ⟨g, 0, none⟩) L.length c, .int .i64 m] 31)) (hrow : w.ownsRow B 42 2 (.slice (some ⟨g, 0, none⟩) L.length c) L.length (countR.flat L)) (hlow : b < B) (hBw : B ≤ w.heap.size) (hF : Fine m L) (hm2 : m ≤ 1000000000000) (hs : s.size ≤ 40) (hns : nameS s) (hn0 : ¬ n < 0) (hnm : ¬ m - sumC L < n) (hl : L.length ≤ 100000) (hn1 : 0 < n) (p : Nat) (hp : p ≤ L.length) (hplow : ∀ i, i < p → blT (L.getD i Ct.none).s s = true) (hpup : p < L.length → blT (L.getD p Ct.none).s s = false ∧ (L.getD p Ct.none).s ≠ s) :
    Calls Tryd.prog 9 #[.pointer (some ⟨b, 0, none⟩), .string s, .int .i64 n] w fun e w' => ∃ (a' : Option Addr) (c' : Nat), e = .returned (.int .i64 0) ∧ RMt B w' b a' c' m (addC s n L) ∧ SaveL (b :: rowb (some ⟨g, 0, none⟩)) w w' ∧ (∀ g2, (Value.slice a' (addC s n L).length c').ownBlock = some g2 → (Value.slice (some ⟨g, 0, none⟩) L.length c).ownBlock = some g2 ∨ w.heap.size ≤ g2) := by
  have hnc := rname_c s w (by omega)
  rw [show decide (nameS s) = true by simpa using hns] at hnc
  have hall := rall_c w.drew ((⟨hbox, hrow, hlow⟩ : RMt B w b (some ⟨g, 0, none⟩) c m L).below (Below.refl _ _).drew) hF hm2 (by omega)
  obtain ⟨⟨c0, c1⟩, f0⟩ := rbox hbox
  have hbl := (Array.getElem?_eq_some_iff.1 hbox).1
  have hS0 := hF.nonneg
  have hS1 := hF.small
  have hw : IntKind.i64.wrap (m - sumC L) = m - sumC L := by rw [IntKind.wrap_i64]; omega
  obtain ⟨i0, hi, hz0, hz1, hz2⟩ := info_parts infoC
  obtain ⟨N, hN⟩ : ∃ N, N = L.length := ⟨_, rfl⟩
  rw [← hN] at c0 hl
  replace hN := hidden hN
  have hat := hidden (⟨hbox, hrow, hlow⟩ : RMt B w b (some ⟨g, 0, none⟩) c m L).at
  replace hplow := hidden hplow
  replace hbox := hidden hbox
  replace hrow := hidden hrow
  replace hF := hidden hF
  have hpN : p ≤ N := by rw [hN.out]; exact hp
  replace hpup := hidden hpup
  go_enter Tryd.func9, Tryd.ntmps9
  go_wp2_with fail
  refine hnc.mono ?_
  rintro e w' ⟨rfl, rfl⟩
  rename World => w
  go_wp2_with fail
  go_region_held3 (fun z => z.cell? ⟨b, 1, none⟩ = some (.int .i64 m)) (first | assumption | go_keep) (first
    | (go_at_call 11; refine hall.mono ?_; rintro e w1 ⟨rfl, rfl⟩)
    | fail)
  clear hnc hall
  go_wp2
  go_loop [7] (fun u => ∃ j : Nat, j ≤ p ∧ u = .int .i64 (j : Int)) (fun u => p - (intOf u).toNat)
  case atStart => exact ⟨0, Nat.zero_le _, rfl⟩
  case round =>
    obtain ⟨j, hj, rfl⟩ := hrel
    by_cases hlt : j < p
    · have hlt' : (j : Int) < (N : Int) := by omega
      obtain ⟨g', off, he, hg', d0, -⟩ := count_at hat.out (k := j) (by have := hN.out; omega)
      cases he
      rw [Nat.zero_add] at d0
      have hb : Op.bytesLess (L.getD j Ct.none).s.toList s.toList = true := hplow.out j hlt
      generalize (L.getD j Ct.none).s = y at *
      go_wp2
      go_round
      case rel => exact ⟨j + 1, by omega, by go_num⟩
      case measure => simp [intOf]; omega
    · obtain rfl : j = p := by omega
      clear hlt
      by_cases hjn : j < N
      · have hlt' : (j : Int) < (N : Int) := by omega
        obtain ⟨hu1, hu2⟩ := hpup.out (by rw [← hN.out]; exact hjn)
        obtain ⟨g', off, he, hg', d0, -⟩ := count_at hat.out (k := j) (by rw [← hN.out]; exact hjn)
        cases he
        rw [Nat.zero_add] at d0
        have hL2 := hidden (addC_new s n L j (by rw [← hN.out]; exact hpN) hplow.out hpup.out)
        have hl1 : (L.take j).length = j := by rw [List.length_take, ← hN.out]; omega
        have hl2 : (L.drop j).length = N - j := by rw [List.length_drop, ← hN.out]
        have hsl := slR_of_owns (R := countR) hrow.out
        have hncap : N ≤ c := by
          obtain ⟨_, c', he, hnc2, -⟩ := hsl
          simp only [Value.slice.injEq] at he
          have := hN.out; omega
        have hS1 := hsl.to' j (by rw [← hN.out]; exact hpN)
        have hS2 := hsl.from' j (by rw [← hN.out]; exact hpN)
        have hjN : (j : Int) ≤ (N : Int) := by omega
        have hjC : (j : Int) ≤ (c : Int) := by omega
        rw [← hN.out, show countR.n = 2 from rfl, Nat.zero_add] at hS2
        have hb : Op.bytesLess (L.getD j Ct.none).s.toList s.toList = false := hu1
        have hs1 : ((L.getD j Ct.none).s.toList == s.toList) = false := by
          have : ¬ (L.getD j Ct.none).s.toList = s.toList := fun h => hu2 (txt_inj h)
          simpa using this
        generalize (L.getD j Ct.none).s = y at *
        clear hw hplow hat hu1 hu2 hpup
        replace hbox := hbox.out
        go_wp2_with fail
        refine wp_region_parts (S := (fun z => z.cell? ⟨b, 0, none⟩ = some (.slice (some ⟨g, 0, none⟩) N c))) #[false, false, false, false, false, false, false, false, false, false, false, false, false, false, false, false, false, false, false, false, false, true, true, true] #[true, true, true, true, true, true, true, true, true, true, true, true, true, true, true, true, true, true, true, true, true, false, false, false] [21, 22, 23] 40 21 (by kernel_rfl) (by kernel_rfl) (by kernel_rfl) (by rfl) ?_ (fun hHeld => ?_)
        · go_keep
        first
          | (refine wpAnyH_take (i := 0) (v := ?_) at0 (by kernel_rfl) (by kernel_rfl) (by kernel_rfl) (fun _ _ _ h => h) (Or.inl ⟨by rfl, ?_⟩) (by assumption) ?_
             rotate_left
             · intro w hSw; (try dsimp only at hSw); go_simp; try with_reducible rfl)
          | fail "take 0"
        try simp only [Act.put, List.setIfInBounds_toArray, List.set_cons_zero, List.set_cons_succ]
        first
          | (refine wpAnyH_take (i := 2) (v := ?_) at2 (by kernel_rfl) (by kernel_rfl) (by kernel_rfl) (fun _ _ _ h => h) (Or.inl ⟨by rfl, ?_⟩) (by assumption) ?_
             rotate_left
             · intro w hSw; (try dsimp only at hSw); go_simp; try with_reducible rfl)
          | fail "take 2"
        try simp only [Act.put, List.setIfInBounds_toArray, List.set_cons_zero, List.set_cons_succ]
        first
          | (refine wpAnyH_take (i := 3) (v := ?_) at3 (by kernel_rfl) (by kernel_rfl) (by kernel_rfl) (fun _ _ _ h => h) (Or.inl ⟨by rfl, ?_⟩) (by assumption) ?_
             rotate_left
             · intro w hSw; (try dsimp only at hSw); go_simp; try with_reducible rfl)
          | fail "take 3"
        try simp only [Act.put, List.setIfInBounds_toArray, List.set_cons_zero, List.set_cons_succ]
        first
          | (refine wpAnyH_take (i := 4) (v := ?_) at4 (by kernel_rfl) (by kernel_rfl) (by kernel_rfl) (fun _ _ _ h => h) (Or.inl ⟨by rfl, ?_⟩) (by assumption) ?_
             rotate_left
             · intro w hSw; (try dsimp only at hSw); go_simp; try with_reducible rfl)
          | fail "take 4"
        try simp only [Act.put, List.setIfInBounds_toArray, List.set_cons_zero, List.set_cons_succ]
        first
          | (refine wpAnyH_take (i := 5) (v := ?_) at5 (by kernel_rfl) (by kernel_rfl) (by kernel_rfl) (fun _ _ _ h => h) (Or.inl ⟨by rfl, ?_⟩) (by assumption) ?_
             rotate_left
             · intro w hSw; (try dsimp only at hSw); go_simp; try with_reducible rfl)
          | fail "take 5"
        try simp only [Act.put, List.setIfInBounds_toArray, List.set_cons_zero, List.set_cons_succ]
        first
          | (refine wpAnyH_take (i := 6) (v := ?_) at6 (by kernel_rfl) (by kernel_rfl) (by kernel_rfl) (fun _ _ _ h => h) (Or.inl ⟨by rfl, ?_⟩) (by assumption) ?_
             rotate_left
             · intro w hSw; (try dsimp only at hSw); go_simp; try with_reducible rfl)
          | fail "take 6"
        try simp only [Act.put, List.setIfInBounds_toArray, List.set_cons_zero, List.set_cons_succ]
        first
          | (refine wpAnyH_take (i := 7) (v := ?_) at7 (by kernel_rfl) (by kernel_rfl) (by kernel_rfl) (fun _ _ _ h => h) (Or.inl ⟨by rfl, ?_⟩) (by assumption) ?_
             rotate_left
             · intro w hSw; (try dsimp only at hSw); go_simp; try with_reducible rfl)
          | fail "take 7"
        try simp only [Act.put, List.setIfInBounds_toArray, List.set_cons_zero, List.set_cons_succ]
        first
          | (refine wpAnyH_take (i := 9) (v := ?_) at9 (by kernel_rfl) (by kernel_rfl) (by kernel_rfl) (fun _ _ _ h => h) (Or.inl ⟨by rfl, ?_⟩) (by assumption) ?_
             rotate_left
             · intro w hSw; (try dsimp only at hSw); go_simp; try with_reducible rfl)
          | fail "take 9"
        try simp only [Act.put, List.setIfInBounds_toArray, List.set_cons_zero, List.set_cons_succ]
        first
          | (refine wpAnyH_take (i := 10) (v := ?_) at10 (by kernel_rfl) (by kernel_rfl) (by kernel_rfl) (fun _ _ _ h => h) (Or.inl ⟨by rfl, ?_⟩) (by assumption) ?_
             rotate_left
             · intro w hSw; (try dsimp only at hSw); go_simp; try with_reducible rfl)
          | fail "take 10"
        try simp only [Act.put, List.setIfInBounds_toArray, List.set_cons_zero, List.set_cons_succ]
        first
          | (refine wpAnyH_take (i := 11) (v := ?_) at11 (by kernel_rfl) (by kernel_rfl) (by kernel_rfl) (fun _ _ _ h => h) (Or.inl ⟨by rfl, ?_⟩) (by assumption) ?_
             rotate_left
             · intro w hSw; (try dsimp only at hSw); go_simp; try with_reducible rfl)
          | fail "take 11"
        try simp only [Act.put, List.setIfInBounds_toArray, List.set_cons_zero, List.set_cons_succ]
        first
          | (refine wpAnyH_take (i := 14) (v := ?_) at14 (by kernel_rfl) (by kernel_rfl) (by kernel_rfl) (fun _ _ _ h => h) (Or.inl ⟨by rfl, ?_⟩) (by assumption) ?_
             rotate_left
             · intro w hSw; (try dsimp only at hSw); go_simp; try with_reducible rfl)
          | fail "take 14"
        try simp only [Act.put, List.setIfInBounds_toArray, List.set_cons_zero, List.set_cons_succ]
        first
          | (refine wpAnyH_take (i := 15) (v := ?_) at15 (by kernel_rfl) (by kernel_rfl) (by kernel_rfl) (fun _ _ _ h => h) (Or.inl ⟨by rfl, ?_⟩) (by assumption) ?_
             rotate_left
             · intro w hSw; (try dsimp only at hSw); go_simp; try with_reducible rfl)
          | fail "take 15"
        try simp only [Act.put, List.setIfInBounds_toArray, List.set_cons_zero, List.set_cons_succ]
        first
          | (refine wpAnyH_take (i := 16) (v := ?_) at16 (by kernel_rfl) (by kernel_rfl) (by kernel_rfl) (fun _ _ _ h => h) (Or.inl ⟨by rfl, ?_⟩) (by assumption) ?_
             rotate_left
             · intro w hSw; (try dsimp only at hSw); go_simp; try with_reducible rfl)
          | fail "take 16"
        try simp only [Act.put, List.setIfInBounds_toArray, List.set_cons_zero, List.set_cons_succ]
        first
          | (refine wpAnyH_take (i := 17) (v := ?_) at17 (by kernel_rfl) (by kernel_rfl) (by kernel_rfl) (fun _ _ _ h => h) (Or.inl ⟨by rfl, ?_⟩) (by assumption) ?_
             rotate_left
             · intro w hSw; (try dsimp only at hSw); go_simp; try with_reducible rfl)
          | fail "take 17"
        try simp only [Act.put, List.setIfInBounds_toArray, List.set_cons_zero, List.set_cons_succ]
        first
          | (refine wpAnyH_take (i := 18) (v := ?_) at18 (by kernel_rfl) (by kernel_rfl) (by kernel_rfl) (fun _ _ _ h => h) (Or.inl ⟨by rfl, ?_⟩) (by assumption) ?_
             rotate_left
             · intro w hSw; (try dsimp only at hSw); go_simp; try with_reducible rfl)
          | fail "take 18"
        try simp only [Act.put, List.setIfInBounds_toArray, List.set_cons_zero, List.set_cons_succ]
        first
          | (refine wpAnyH_take (i := 19) (v := ?_) at19 (by kernel_rfl) (by kernel_rfl) (by kernel_rfl) (fun _ _ _ h => h) (Or.inl ⟨by rfl, ?_⟩) (by assumption) ?_
             rotate_left
             · intro w hSw; (try dsimp only at hSw); go_simp; try with_reducible rfl)
          | fail "take 19"
        try simp only [Act.put, List.setIfInBounds_toArray, List.set_cons_zero, List.set_cons_succ]
        refine wpAnyH_ready (rs := [1, 12]) (by kernel_rfl) (by simp) ?_
        refine AllReadyH.cons (i := 1) at1 (fun K hK => ?_) ?_
        · go_simp
          refine hK.out _ _ ?_ (fun hNew => ?_)
          · go_keep
          clear hK K hHeld
          have hHeld := hNew
          clear hNew
          try simp only [Act.put, List.setIfInBounds_toArray, List.set_cons_zero, List.set_cons_succ]
          refine wpAnyH_ready (rs := [8, 12]) (by kernel_rfl) (by simp) ?_
          refine AllReadyH.cons (i := 8) at8 (fun K hK => ?_) ?_
          · refine step_appR countR rfl (.tmp 82) (.tmp 88) 29 rfl w.heap.size 42 i0 (.agg #[.string ⟨#[]⟩, .int .i64 0]) 2 24 Tryd.underlying29 hi hz0 hz1 hz2 rfl rfl (by simp [Act.eval]) (World.ownsRow_lit (base := w.heap.size) (e := 42) (size := 2) w.drew.drew #[] 0 (Nat.le_refl _) (by decide) rfl) (by simp [Act.eval]) (hS1.below ((Below.refl w.heap.size w).drew.drew.alloc (Nat.le_refl _) (.cells #[] 42))) (by simp only [hl1, hl2, List.length_cons, List.length_nil]; unfold maxLen; omega) (by simp only [hl1, hl2, List.length_cons, List.length_nil]; omega) (by simp <;> omega) ?_
            intro v1 w1 hown1 hgrow1 hsm1
            have hB1 := ((Below.refl w.heap.size w).drew.drew.alloc (Nat.le_refl _) (.cells #[] 42)).grown hgrow1 (by simp <;> omega) (fun j hj => by cases hj; simp)
            have hc1 := (hB1.cell (p := ⟨b, 0, none⟩) hbl).trans c0
            refine hK.out _ _ ?_ (fun hNew => ?_)
            · exact hc1
            clear hK K hHeld
            have hHeld := hNew
            clear hNew
            try simp only [Act.put, List.setIfInBounds_toArray, List.set_cons_zero, List.set_cons_succ]
            refine wpAnyH_ready (rs := [12]) (by kernel_rfl) (by simp) ?_
            refine AllReadyH.cons (i := 12) at12 (fun K hK => ?_) ?_
            · go_simp
              refine hK.out _ _ ?_ (fun hNew => ?_)
              · go_keep
              clear hK K hHeld
              have hHeld := hNew
              clear hNew
              try simp only [Act.put, List.setIfInBounds_toArray, List.set_cons_zero, List.set_cons_succ]
              refine wpAnyH_ready (rs := [13]) (by kernel_rfl) (by simp) ?_
              refine AllReadyH.cons (i := 13) at13 (fun K hK => ?_) ?_
              · refine step_appR countR rfl (.tmp 89) (.tmp 93) 29 rfl w.heap.size 42 i0 (.agg #[.string ⟨#[]⟩, .int .i64 0]) 2 24 Tryd.underlying29 hi hz0 hz1 hz2 rfl rfl (by simp [Act.eval]) (hown1.alloc (.cells #[.string s, .int .i64 n] 42)) (by simp [Act.eval]) (SlR.oneR (R := countR) w1 ⟨s, n⟩ 42) (by simp only [hl1, hl2, List.length_cons, List.length_nil]; unfold maxLen; omega) (by simp only [hl1, hl2, List.length_cons, List.length_nil]; omega) (by simp; exact Nat.le_succ_of_le hB1.size) ?_
                intro v2 w2 hown2 hgrow2 hsm2
                have hB2 := (hB1.alloc hB1.size (.cells #[.string s, .int .i64 n] 42)).grown hgrow2 (by simp; exact Nat.le_succ_of_le hB1.size) (fun j hj => (hown1.lt j hj).1)
                have hc2 := (hB2.cell (p := ⟨b, 0, none⟩) hbl).trans c0
                refine hK.out _ _ ?_ (fun hNew => ?_)
                · exact hc2
                clear hK K hHeld
                have hHeld := hNew
                clear hNew
                try simp only [Act.put, List.setIfInBounds_toArray, List.set_cons_zero, List.set_cons_succ]
                refine wpAnyH_ready (rs := [20]) (by kernel_rfl) (by simp) ?_
                refine AllReadyH.cons (i := 20) at20 (fun K hK => ?_) ?_
                · refine step_appR countR rfl (.tmp 94) (.tmp 100) 29 rfl w.heap.size 42 i0 (.agg #[.string ⟨#[]⟩, .int .i64 0]) 2 24 Tryd.underlying29 hi hz0 hz1 hz2 rfl rfl (by simp [Act.eval]) hown2 (by simp [Act.eval]) (hS2.below hB2) (by simp only [hl1, hl2, List.length_cons, List.length_nil]; unfold maxLen; omega) (by simp only [hl1, hl2, List.length_cons, List.length_nil]; omega) hB2.size ?_
                  intro v3 w3 hown3 hgrow3 hsm3
                  have hB3 := hB2.grown hgrow3 hB2.size (fun j hj => (hown2.lt j hj).1)
                  have hc3 := (hB3.cell (p := ⟨b, 0, none⟩) hbl).trans c0
                  have hfz3 := (rbox ((hB3.block b hbl).trans hbox)).2
                  refine hK.out _ _ ?_ (fun hNew => ?_)
                  · exact hc3
                  clear hK K hHeld
                  have hHeld := hNew
                  clear hNew
                  try simp only [Act.put, List.setIfInBounds_toArray, List.set_cons_zero, List.set_cons_succ]
                  refine tail_list (is := [21, 22, 23]) (l := _) (by kernel_rfl) (by kernel_rfl) (by kernel_rfl) rfl ?_
                  simp only [List.filterMap_cons, List.filterMap_nil, at21, at22, at23]
                  show wpList _ _ _ (_ :: _) _ _
                  have hown4 : w3.ownsRow w.heap.size 42 2 v3 (addC s n L).length (countR.flat (addC s n L)) := by
                    have h := hown3
                    rw [hL2.out]
                    have e1 : (L.take j ++ [(⟨s, n⟩ : Ct)] ++ L.drop j).length = 0 + (L.take j).length + [(⟨s, n⟩ : Ct)].length + (L.drop j).length := by simp; omega
                    rw [e1]
                    simp only [Rec.flat_app, List.append_assoc] at h ⊢
                    exact h
                  have hne3 : v3 ≠ .slice none 0 0 := fun h => by have := hsm1 (hsm2 (hsm3 h)); cases this
                  obtain ⟨gg, cc, rfl, hgg, -⟩ := own_some hown4 hne3
                  have hR4 := hidden hown4
                  have hB4 := hidden hB3
                  have hbox3 := hidden ((hB3.block b hbl).trans hbox)
                  clear hown1 hown2 hown3 hown4 hgrow1 hgrow2 hgrow3 hB1 hB2 hB3 hS1 hS2 hne3 hc1 hc2 hc3
                  go_wp2
                  all_goals
                    go_ret
                    refine ⟨rfl, some ⟨gg, 0, none⟩, cc, ⟨?_, ?_, hlow⟩, ?_, fun g2 hg2 => ?_⟩
                    · have := set_cell0 hbox3.out (.slice (some ⟨gg, 0, none⟩) (addC s n L).length cc)
                      simpa using this
                    · exact own_leT (own_set0 hR4.out hbox3.out) hBw
                    · exact ((SaveL.of_below hB4.out).trans (SaveL.setCell ⟨b, 0, none⟩ _ (by simp)))
                    · cases hg2; exact .inr hgg
                exact AllReadyH.nil
              exact AllReadyH.nil
            exact AllReadyH.nil
          refine AllReadyH.cons (i := 12) at12 (fun K hK => ?_) ?_
          · go_simp
            refine hK.out _ _ ?_ (fun hNew => ?_)
            · go_keep
            clear hK K hHeld
            have hHeld := hNew
            clear hNew
            try simp only [Act.put, List.setIfInBounds_toArray, List.set_cons_zero, List.set_cons_succ]
            refine wpAnyH_ready (rs := [8]) (by kernel_rfl) (by simp) ?_
            refine AllReadyH.cons (i := 8) at8 (fun K hK => ?_) ?_
            · refine step_appR countR rfl (.tmp 82) (.tmp 88) 29 rfl w.heap.size 42 i0 (.agg #[.string ⟨#[]⟩, .int .i64 0]) 2 24 Tryd.underlying29 hi hz0 hz1 hz2 rfl rfl (by simp [Act.eval]) ((World.ownsRow_lit (base := w.heap.size) (e := 42) (size := 2) w.drew.drew #[] 0 (Nat.le_refl _) (by decide) rfl).alloc (.cells #[.string s, .int .i64 n] 42)) (by simp [Act.eval]) (hS1.below (((Below.refl w.heap.size w).drew.drew.alloc (Nat.le_refl _) (.cells #[] 42)).alloc (by simp) (.cells #[.string s, .int .i64 n] 42))) (by simp only [hl1, hl2, List.length_cons, List.length_nil]; unfold maxLen; omega) (by simp only [hl1, hl2, List.length_cons, List.length_nil]; omega) (by simp <;> omega) ?_
              intro v1 w1 hown1 hgrow1 hsm1
              have hB1 := (((Below.refl w.heap.size w).drew.drew.alloc (Nat.le_refl _) (.cells #[] 42)).alloc (by simp) (.cells #[.string s, .int .i64 n] 42)).grown hgrow1 (by simp <;> omega) (fun j hj => by cases hj; simp)
              have h54 := (SlR.oneR (R := countR) (w.drew.drew.alloc (.cells #[] 42)) ⟨s, n⟩ 42).grownR hgrow1 (by simp [Value.ownBlock])
              have hc1 := (hB1.cell (p := ⟨b, 0, none⟩) hbl).trans c0
              refine hK.out _ _ ?_ (fun hNew => ?_)
              · exact hc1
              clear hK K hHeld
              have hHeld := hNew
              clear hNew
              try simp only [Act.put, List.setIfInBounds_toArray, List.set_cons_zero, List.set_cons_succ]
              refine wpAnyH_ready (rs := [13]) (by kernel_rfl) (by simp) ?_
              refine AllReadyH.cons (i := 13) at13 (fun K hK => ?_) ?_
              · refine step_appR countR rfl (.tmp 89) (.tmp 93) 29 rfl w.heap.size 42 i0 (.agg #[.string ⟨#[]⟩, .int .i64 0]) 2 24 Tryd.underlying29 hi hz0 hz1 hz2 rfl rfl (by simp [Act.eval]) hown1 (by simp [Act.eval]) h54 (by simp only [hl1, hl2, List.length_cons, List.length_nil]; unfold maxLen; omega) (by simp only [hl1, hl2, List.length_cons, List.length_nil]; omega) hB1.size ?_
                intro v2 w2 hown2 hgrow2 hsm2
                have hB2 := hB1.grown hgrow2 hB1.size (fun j hj => (hown1.lt j hj).1)
                have hc2 := (hB2.cell (p := ⟨b, 0, none⟩) hbl).trans c0
                refine hK.out _ _ ?_ (fun hNew => ?_)
                · exact hc2
                clear hK K hHeld
                have hHeld := hNew
                clear hNew
                try simp only [Act.put, List.setIfInBounds_toArray, List.set_cons_zero, List.set_cons_succ]
                refine wpAnyH_ready (rs := [20]) (by kernel_rfl) (by simp) ?_
                refine AllReadyH.cons (i := 20) at20 (fun K hK => ?_) ?_
                · refine step_appR countR rfl (.tmp 94) (.tmp 100) 29 rfl w.heap.size 42 i0 (.agg #[.string ⟨#[]⟩, .int .i64 0]) 2 24 Tryd.underlying29 hi hz0 hz1 hz2 rfl rfl (by simp [Act.eval]) hown2 (by simp [Act.eval]) (hS2.below hB2) (by simp only [hl1, hl2, List.length_cons, List.length_nil]; unfold maxLen; omega) (by simp only [hl1, hl2, List.length_cons, List.length_nil]; omega) hB2.size ?_
                  intro v3 w3 hown3 hgrow3 hsm3
                  have hB3 := hB2.grown hgrow3 hB2.size (fun j hj => (hown2.lt j hj).1)
                  have hc3 := (hB3.cell (p := ⟨b, 0, none⟩) hbl).trans c0
                  have hfz3 := (rbox ((hB3.block b hbl).trans hbox)).2
                  refine hK.out _ _ ?_ (fun hNew => ?_)
                  · exact hc3
                  clear hK K hHeld
                  have hHeld := hNew
                  clear hNew
                  try simp only [Act.put, List.setIfInBounds_toArray, List.set_cons_zero, List.set_cons_succ]
                  refine tail_list (is := [21, 22, 23]) (l := _) (by kernel_rfl) (by kernel_rfl) (by kernel_rfl) rfl ?_
                  simp only [List.filterMap_cons, List.filterMap_nil, at21, at22, at23]
                  show wpList _ _ _ (_ :: _) _ _
                  have hown4 : w3.ownsRow w.heap.size 42 2 v3 (addC s n L).length (countR.flat (addC s n L)) := by
                    have h := hown3
                    rw [hL2.out]
                    have e1 : (L.take j ++ [(⟨s, n⟩ : Ct)] ++ L.drop j).length = 0 + (L.take j).length + [(⟨s, n⟩ : Ct)].length + (L.drop j).length := by simp; omega
                    rw [e1]
                    simp only [Rec.flat_app, List.append_assoc] at h ⊢
                    exact h
                  have hne3 : v3 ≠ .slice none 0 0 := fun h => by have := hsm1 (hsm2 (hsm3 h)); cases this
                  obtain ⟨gg, cc, rfl, hgg, -⟩ := own_some hown4 hne3
                  have hR4 := hidden hown4
                  have hB4 := hidden hB3
                  have hbox3 := hidden ((hB3.block b hbl).trans hbox)
                  clear hown1 hown2 hown3 hown4 hgrow1 hgrow2 hgrow3 hB1 hB2 hB3 hS1 hS2 hne3 hc1 hc2 hc3
                  go_wp2
                  all_goals
                    go_ret
                    refine ⟨rfl, some ⟨gg, 0, none⟩, cc, ⟨?_, ?_, hlow⟩, ?_, fun g2 hg2 => ?_⟩
                    · have := set_cell0 hbox3.out (.slice (some ⟨gg, 0, none⟩) (addC s n L).length cc)
                      simpa using this
                    · exact own_leT (own_set0 hR4.out hbox3.out) hBw
                    · exact ((SaveL.of_below hB4.out).trans (SaveL.setCell ⟨b, 0, none⟩ _ (by simp)))
                    · cases hg2; exact .inr hgg
                exact AllReadyH.nil
              exact AllReadyH.nil
            exact AllReadyH.nil
          exact AllReadyH.nil
        refine AllReadyH.cons (i := 12) at12 (fun K hK => ?_) ?_
        · go_simp
          refine hK.out _ _ ?_ (fun hNew => ?_)
          · go_keep
          clear hK K hHeld
          have hHeld := hNew
          clear hNew
          try simp only [Act.put, List.setIfInBounds_toArray, List.set_cons_zero, List.set_cons_succ]
          refine wpAnyH_ready (rs := [1]) (by kernel_rfl) (by simp) ?_
          refine AllReadyH.cons (i := 1) at1 (fun K hK => ?_) ?_
          · go_simp
            refine hK.out _ _ ?_ (fun hNew => ?_)
            · go_keep
            clear hK K hHeld
            have hHeld := hNew
            clear hNew
            try simp only [Act.put, List.setIfInBounds_toArray, List.set_cons_zero, List.set_cons_succ]
            refine wpAnyH_ready (rs := [8]) (by kernel_rfl) (by simp) ?_
            refine AllReadyH.cons (i := 8) at8 (fun K hK => ?_) ?_
            · refine step_appR countR rfl (.tmp 82) (.tmp 88) 29 rfl w.heap.size 42 i0 (.agg #[.string ⟨#[]⟩, .int .i64 0]) 2 24 Tryd.underlying29 hi hz0 hz1 hz2 rfl rfl (by simp [Act.eval]) (World.ownsRow_lit (base := w.heap.size) (e := 42) (size := 2) (w.drew.drew.alloc (.cells #[.string s, .int .i64 n] 42)) #[] 0 (by simp) (by decide) rfl) (by simp [Act.eval]) (hS1.below (((Below.refl w.heap.size w).drew.drew.alloc (Nat.le_refl _) (.cells #[.string s, .int .i64 n] 42)).alloc (by simp) (.cells #[] 42))) (by simp only [hl1, hl2, List.length_cons, List.length_nil]; unfold maxLen; omega) (by simp only [hl1, hl2, List.length_cons, List.length_nil]; omega) (by simp <;> omega) ?_
              intro v1 w1 hown1 hgrow1 hsm1
              have hB1 := (((Below.refl w.heap.size w).drew.drew.alloc (Nat.le_refl _) (.cells #[.string s, .int .i64 n] 42)).alloc (by simp) (.cells #[] 42)).grown hgrow1 (by simp <;> omega) (fun j hj => by cases hj; simp)
              have h54 := ((SlR.oneR (R := countR) w.drew.drew ⟨s, n⟩ 42).alloc (.cells #[] 42)).grownR hgrow1 (by simp [Value.ownBlock])
              have hc1 := (hB1.cell (p := ⟨b, 0, none⟩) hbl).trans c0
              refine hK.out _ _ ?_ (fun hNew => ?_)
              · exact hc1
              clear hK K hHeld
              have hHeld := hNew
              clear hNew
              try simp only [Act.put, List.setIfInBounds_toArray, List.set_cons_zero, List.set_cons_succ]
              refine wpAnyH_ready (rs := [13]) (by kernel_rfl) (by simp) ?_
              refine AllReadyH.cons (i := 13) at13 (fun K hK => ?_) ?_
              · refine step_appR countR rfl (.tmp 89) (.tmp 93) 29 rfl w.heap.size 42 i0 (.agg #[.string ⟨#[]⟩, .int .i64 0]) 2 24 Tryd.underlying29 hi hz0 hz1 hz2 rfl rfl (by simp [Act.eval]) hown1 (by simp [Act.eval]) h54 (by simp only [hl1, hl2, List.length_cons, List.length_nil]; unfold maxLen; omega) (by simp only [hl1, hl2, List.length_cons, List.length_nil]; omega) hB1.size ?_
                intro v2 w2 hown2 hgrow2 hsm2
                have hB2 := hB1.grown hgrow2 hB1.size (fun j hj => (hown1.lt j hj).1)
                have hc2 := (hB2.cell (p := ⟨b, 0, none⟩) hbl).trans c0
                refine hK.out _ _ ?_ (fun hNew => ?_)
                · exact hc2
                clear hK K hHeld
                have hHeld := hNew
                clear hNew
                try simp only [Act.put, List.setIfInBounds_toArray, List.set_cons_zero, List.set_cons_succ]
                refine wpAnyH_ready (rs := [20]) (by kernel_rfl) (by simp) ?_
                refine AllReadyH.cons (i := 20) at20 (fun K hK => ?_) ?_
                · refine step_appR countR rfl (.tmp 94) (.tmp 100) 29 rfl w.heap.size 42 i0 (.agg #[.string ⟨#[]⟩, .int .i64 0]) 2 24 Tryd.underlying29 hi hz0 hz1 hz2 rfl rfl (by simp [Act.eval]) hown2 (by simp [Act.eval]) (hS2.below hB2) (by simp only [hl1, hl2, List.length_cons, List.length_nil]; unfold maxLen; omega) (by simp only [hl1, hl2, List.length_cons, List.length_nil]; omega) hB2.size ?_
                  intro v3 w3 hown3 hgrow3 hsm3
                  have hB3 := hB2.grown hgrow3 hB2.size (fun j hj => (hown2.lt j hj).1)
                  have hc3 := (hB3.cell (p := ⟨b, 0, none⟩) hbl).trans c0
                  have hfz3 := (rbox ((hB3.block b hbl).trans hbox)).2
                  refine hK.out _ _ ?_ (fun hNew => ?_)
                  · exact hc3
                  clear hK K hHeld
                  have hHeld := hNew
                  clear hNew
                  try simp only [Act.put, List.setIfInBounds_toArray, List.set_cons_zero, List.set_cons_succ]
                  refine tail_list (is := [21, 22, 23]) (l := _) (by kernel_rfl) (by kernel_rfl) (by kernel_rfl) rfl ?_
                  simp only [List.filterMap_cons, List.filterMap_nil, at21, at22, at23]
                  show wpList _ _ _ (_ :: _) _ _
                  have hown4 : w3.ownsRow w.heap.size 42 2 v3 (addC s n L).length (countR.flat (addC s n L)) := by
                    have h := hown3
                    rw [hL2.out]
                    have e1 : (L.take j ++ [(⟨s, n⟩ : Ct)] ++ L.drop j).length = 0 + (L.take j).length + [(⟨s, n⟩ : Ct)].length + (L.drop j).length := by simp; omega
                    rw [e1]
                    simp only [Rec.flat_app, List.append_assoc] at h ⊢
                    exact h
                  have hne3 : v3 ≠ .slice none 0 0 := fun h => by have := hsm1 (hsm2 (hsm3 h)); cases this
                  obtain ⟨gg, cc, rfl, hgg, -⟩ := own_some hown4 hne3
                  have hR4 := hidden hown4
                  have hB4 := hidden hB3
                  have hbox3 := hidden ((hB3.block b hbl).trans hbox)
                  clear hown1 hown2 hown3 hown4 hgrow1 hgrow2 hgrow3 hB1 hB2 hB3 hS1 hS2 hne3 hc1 hc2 hc3
                  go_wp2
                  all_goals
                    go_ret
                    refine ⟨rfl, some ⟨gg, 0, none⟩, cc, ⟨?_, ?_, hlow⟩, ?_, fun g2 hg2 => ?_⟩
                    · have := set_cell0 hbox3.out (.slice (some ⟨gg, 0, none⟩) (addC s n L).length cc)
                      simpa using this
                    · exact own_leT (own_set0 hR4.out hbox3.out) hBw
                    · exact ((SaveL.of_below hB4.out).trans (SaveL.setCell ⟨b, 0, none⟩ _ (by simp)))
                    · cases hg2; exact .inr hgg
                exact AllReadyH.nil
              exact AllReadyH.nil
            exact AllReadyH.nil
          exact AllReadyH.nil
        exact AllReadyH.nil
      · have hlt' : ¬ (j : Int) < (N : Int) := by omega
        have hL2 := hidden (addC_new s n L j (by rw [← hN.out]; exact hpN) hplow.out hpup.out)
        have hl1 : (L.take j).length = j := by rw [List.length_take, ← hN.out]; omega
        have hl2 : (L.drop j).length = N - j := by rw [List.length_drop, ← hN.out]
        have hsl := slR_of_owns (R := countR) hrow.out
        have hncap : N ≤ c := by
          obtain ⟨_, c', he, hnc2, -⟩ := hsl
          simp only [Value.slice.injEq] at he
          have := hN.out; omega
        have hS1 := hsl.to' j (by rw [← hN.out]; exact hpN)
        have hS2 := hsl.from' j (by rw [← hN.out]; exact hpN)
        have hjN : (j : Int) ≤ (N : Int) := by omega
        have hjC : (j : Int) ≤ (c : Int) := by omega
        rw [← hN.out, show countR.n = 2 from rfl, Nat.zero_add] at hS2
        clear hw hplow hat hpup
        replace hbox := hbox.out
        go_wp2_with fail
        refine wp_region_parts (S := (fun z => z.cell? ⟨b, 0, none⟩ = some (.slice (some ⟨g, 0, none⟩) N c))) #[false, false, false, false, false, false, false, false, false, false, false, false, false, false, false, false, false, false, false, false, false, true, true, true] #[true, true, true, true, true, true, true, true, true, true, true, true, true, true, true, true, true, true, true, true, true, false, false, false] [21, 22, 23] 40 21 (by kernel_rfl) (by kernel_rfl) (by kernel_rfl) (by rfl) ?_ (fun hHeld => ?_)
        · go_keep
        first
          | (refine wpAnyH_take (i := 0) (v := ?_) at0 (by kernel_rfl) (by kernel_rfl) (by kernel_rfl) (fun _ _ _ h => h) (Or.inl ⟨by rfl, ?_⟩) (by assumption) ?_
             rotate_left
             · intro w hSw; (try dsimp only at hSw); go_simp; try with_reducible rfl)
          | fail "take 0"
        try simp only [Act.put, List.setIfInBounds_toArray, List.set_cons_zero, List.set_cons_succ]
        first
          | (refine wpAnyH_take (i := 2) (v := ?_) at2 (by kernel_rfl) (by kernel_rfl) (by kernel_rfl) (fun _ _ _ h => h) (Or.inl ⟨by rfl, ?_⟩) (by assumption) ?_
             rotate_left
             · intro w hSw; (try dsimp only at hSw); go_simp; try with_reducible rfl)
          | fail "take 2"
        try simp only [Act.put, List.setIfInBounds_toArray, List.set_cons_zero, List.set_cons_succ]
        first
          | (refine wpAnyH_take (i := 3) (v := ?_) at3 (by kernel_rfl) (by kernel_rfl) (by kernel_rfl) (fun _ _ _ h => h) (Or.inl ⟨by rfl, ?_⟩) (by assumption) ?_
             rotate_left
             · intro w hSw; (try dsimp only at hSw); go_simp; try with_reducible rfl)
          | fail "take 3"
        try simp only [Act.put, List.setIfInBounds_toArray, List.set_cons_zero, List.set_cons_succ]
        first
          | (refine wpAnyH_take (i := 4) (v := ?_) at4 (by kernel_rfl) (by kernel_rfl) (by kernel_rfl) (fun _ _ _ h => h) (Or.inl ⟨by rfl, ?_⟩) (by assumption) ?_
             rotate_left
             · intro w hSw; (try dsimp only at hSw); go_simp; try with_reducible rfl)
          | fail "take 4"
        try simp only [Act.put, List.setIfInBounds_toArray, List.set_cons_zero, List.set_cons_succ]
        first
          | (refine wpAnyH_take (i := 5) (v := ?_) at5 (by kernel_rfl) (by kernel_rfl) (by kernel_rfl) (fun _ _ _ h => h) (Or.inl ⟨by rfl, ?_⟩) (by assumption) ?_
             rotate_left
             · intro w hSw; (try dsimp only at hSw); go_simp; try with_reducible rfl)
          | fail "take 5"
        try simp only [Act.put, List.setIfInBounds_toArray, List.set_cons_zero, List.set_cons_succ]
        first
          | (refine wpAnyH_take (i := 6) (v := ?_) at6 (by kernel_rfl) (by kernel_rfl) (by kernel_rfl) (fun _ _ _ h => h) (Or.inl ⟨by rfl, ?_⟩) (by assumption) ?_
             rotate_left
             · intro w hSw; (try dsimp only at hSw); go_simp; try with_reducible rfl)
          | fail "take 6"
        try simp only [Act.put, List.setIfInBounds_toArray, List.set_cons_zero, List.set_cons_succ]
        first
          | (refine wpAnyH_take (i := 7) (v := ?_) at7 (by kernel_rfl) (by kernel_rfl) (by kernel_rfl) (fun _ _ _ h => h) (Or.inl ⟨by rfl, ?_⟩) (by assumption) ?_
             rotate_left
             · intro w hSw; (try dsimp only at hSw); go_simp; try with_reducible rfl)
          | fail "take 7"
        try simp only [Act.put, List.setIfInBounds_toArray, List.set_cons_zero, List.set_cons_succ]
        first
          | (refine wpAnyH_take (i := 9) (v := ?_) at9 (by kernel_rfl) (by kernel_rfl) (by kernel_rfl) (fun _ _ _ h => h) (Or.inl ⟨by rfl, ?_⟩) (by assumption) ?_
             rotate_left
             · intro w hSw; (try dsimp only at hSw); go_simp; try with_reducible rfl)
          | fail "take 9"
        try simp only [Act.put, List.setIfInBounds_toArray, List.set_cons_zero, List.set_cons_succ]
        first
          | (refine wpAnyH_take (i := 10) (v := ?_) at10 (by kernel_rfl) (by kernel_rfl) (by kernel_rfl) (fun _ _ _ h => h) (Or.inl ⟨by rfl, ?_⟩) (by assumption) ?_
             rotate_left
             · intro w hSw; (try dsimp only at hSw); go_simp; try with_reducible rfl)
          | fail "take 10"
        try simp only [Act.put, List.setIfInBounds_toArray, List.set_cons_zero, List.set_cons_succ]
        first
          | (refine wpAnyH_take (i := 11) (v := ?_) at11 (by kernel_rfl) (by kernel_rfl) (by kernel_rfl) (fun _ _ _ h => h) (Or.inl ⟨by rfl, ?_⟩) (by assumption) ?_
             rotate_left
             · intro w hSw; (try dsimp only at hSw); go_simp; try with_reducible rfl)
          | fail "take 11"
        try simp only [Act.put, List.setIfInBounds_toArray, List.set_cons_zero, List.set_cons_succ]
        first
          | (refine wpAnyH_take (i := 14) (v := ?_) at14 (by kernel_rfl) (by kernel_rfl) (by kernel_rfl) (fun _ _ _ h => h) (Or.inl ⟨by rfl, ?_⟩) (by assumption) ?_
             rotate_left
             · intro w hSw; (try dsimp only at hSw); go_simp; try with_reducible rfl)
          | fail "take 14"
        try simp only [Act.put, List.setIfInBounds_toArray, List.set_cons_zero, List.set_cons_succ]
        first
          | (refine wpAnyH_take (i := 15) (v := ?_) at15 (by kernel_rfl) (by kernel_rfl) (by kernel_rfl) (fun _ _ _ h => h) (Or.inl ⟨by rfl, ?_⟩) (by assumption) ?_
             rotate_left
             · intro w hSw; (try dsimp only at hSw); go_simp; try with_reducible rfl)
          | fail "take 15"
        try simp only [Act.put, List.setIfInBounds_toArray, List.set_cons_zero, List.set_cons_succ]
        first
          | (refine wpAnyH_take (i := 16) (v := ?_) at16 (by kernel_rfl) (by kernel_rfl) (by kernel_rfl) (fun _ _ _ h => h) (Or.inl ⟨by rfl, ?_⟩) (by assumption) ?_
             rotate_left
             · intro w hSw; (try dsimp only at hSw); go_simp; try with_reducible rfl)
          | fail "take 16"
        try simp only [Act.put, List.setIfInBounds_toArray, List.set_cons_zero, List.set_cons_succ]
        first
          | (refine wpAnyH_take (i := 17) (v := ?_) at17 (by kernel_rfl) (by kernel_rfl) (by kernel_rfl) (fun _ _ _ h => h) (Or.inl ⟨by rfl, ?_⟩) (by assumption) ?_
             rotate_left
             · intro w hSw; (try dsimp only at hSw); go_simp; try with_reducible rfl)
          | fail "take 17"
        try simp only [Act.put, List.setIfInBounds_toArray, List.set_cons_zero, List.set_cons_succ]
        first
          | (refine wpAnyH_take (i := 18) (v := ?_) at18 (by kernel_rfl) (by kernel_rfl) (by kernel_rfl) (fun _ _ _ h => h) (Or.inl ⟨by rfl, ?_⟩) (by assumption) ?_
             rotate_left
             · intro w hSw; (try dsimp only at hSw); go_simp; try with_reducible rfl)
          | fail "take 18"
        try simp only [Act.put, List.setIfInBounds_toArray, List.set_cons_zero, List.set_cons_succ]
        first
          | (refine wpAnyH_take (i := 19) (v := ?_) at19 (by kernel_rfl) (by kernel_rfl) (by kernel_rfl) (fun _ _ _ h => h) (Or.inl ⟨by rfl, ?_⟩) (by assumption) ?_
             rotate_left
             · intro w hSw; (try dsimp only at hSw); go_simp; try with_reducible rfl)
          | fail "take 19"
        try simp only [Act.put, List.setIfInBounds_toArray, List.set_cons_zero, List.set_cons_succ]
        refine wpAnyH_ready (rs := [1, 12]) (by kernel_rfl) (by simp) ?_
        refine AllReadyH.cons (i := 1) at1 (fun K hK => ?_) ?_
        · go_simp
          refine hK.out _ _ ?_ (fun hNew => ?_)
          · go_keep
          clear hK K hHeld
          have hHeld := hNew
          clear hNew
          try simp only [Act.put, List.setIfInBounds_toArray, List.set_cons_zero, List.set_cons_succ]
          refine wpAnyH_ready (rs := [8, 12]) (by kernel_rfl) (by simp) ?_
          refine AllReadyH.cons (i := 8) at8 (fun K hK => ?_) ?_
          · refine step_appR countR rfl (.tmp 82) (.tmp 88) 29 rfl w.heap.size 42 i0 (.agg #[.string ⟨#[]⟩, .int .i64 0]) 2 24 Tryd.underlying29 hi hz0 hz1 hz2 rfl rfl (by simp [Act.eval]) (World.ownsRow_lit (base := w.heap.size) (e := 42) (size := 2) w.drew.drew #[] 0 (Nat.le_refl _) (by decide) rfl) (by simp [Act.eval]) (hS1.below ((Below.refl w.heap.size w).drew.drew.alloc (Nat.le_refl _) (.cells #[] 42))) (by simp only [hl1, hl2, List.length_cons, List.length_nil]; unfold maxLen; omega) (by simp only [hl1, hl2, List.length_cons, List.length_nil]; omega) (by simp <;> omega) ?_
            intro v1 w1 hown1 hgrow1 hsm1
            have hB1 := ((Below.refl w.heap.size w).drew.drew.alloc (Nat.le_refl _) (.cells #[] 42)).grown hgrow1 (by simp <;> omega) (fun j hj => by cases hj; simp)
            have hc1 := (hB1.cell (p := ⟨b, 0, none⟩) hbl).trans c0
            refine hK.out _ _ ?_ (fun hNew => ?_)
            · exact hc1
            clear hK K hHeld
            have hHeld := hNew
            clear hNew
            try simp only [Act.put, List.setIfInBounds_toArray, List.set_cons_zero, List.set_cons_succ]
            refine wpAnyH_ready (rs := [12]) (by kernel_rfl) (by simp) ?_
            refine AllReadyH.cons (i := 12) at12 (fun K hK => ?_) ?_
            · go_simp
              refine hK.out _ _ ?_ (fun hNew => ?_)
              · go_keep
              clear hK K hHeld
              have hHeld := hNew
              clear hNew
              try simp only [Act.put, List.setIfInBounds_toArray, List.set_cons_zero, List.set_cons_succ]
              refine wpAnyH_ready (rs := [13]) (by kernel_rfl) (by simp) ?_
              refine AllReadyH.cons (i := 13) at13 (fun K hK => ?_) ?_
              · refine step_appR countR rfl (.tmp 89) (.tmp 93) 29 rfl w.heap.size 42 i0 (.agg #[.string ⟨#[]⟩, .int .i64 0]) 2 24 Tryd.underlying29 hi hz0 hz1 hz2 rfl rfl (by simp [Act.eval]) (hown1.alloc (.cells #[.string s, .int .i64 n] 42)) (by simp [Act.eval]) (SlR.oneR (R := countR) w1 ⟨s, n⟩ 42) (by simp only [hl1, hl2, List.length_cons, List.length_nil]; unfold maxLen; omega) (by simp only [hl1, hl2, List.length_cons, List.length_nil]; omega) (by simp; exact Nat.le_succ_of_le hB1.size) ?_
                intro v2 w2 hown2 hgrow2 hsm2
                have hB2 := (hB1.alloc hB1.size (.cells #[.string s, .int .i64 n] 42)).grown hgrow2 (by simp; exact Nat.le_succ_of_le hB1.size) (fun j hj => (hown1.lt j hj).1)
                have hc2 := (hB2.cell (p := ⟨b, 0, none⟩) hbl).trans c0
                refine hK.out _ _ ?_ (fun hNew => ?_)
                · exact hc2
                clear hK K hHeld
                have hHeld := hNew
                clear hNew
                try simp only [Act.put, List.setIfInBounds_toArray, List.set_cons_zero, List.set_cons_succ]
                refine wpAnyH_ready (rs := [20]) (by kernel_rfl) (by simp) ?_
                refine AllReadyH.cons (i := 20) at20 (fun K hK => ?_) ?_
                · refine step_appR countR rfl (.tmp 94) (.tmp 100) 29 rfl w.heap.size 42 i0 (.agg #[.string ⟨#[]⟩, .int .i64 0]) 2 24 Tryd.underlying29 hi hz0 hz1 hz2 rfl rfl (by simp [Act.eval]) hown2 (by simp [Act.eval]) (hS2.below hB2) (by simp only [hl1, hl2, List.length_cons, List.length_nil]; unfold maxLen; omega) (by simp only [hl1, hl2, List.length_cons, List.length_nil]; omega) hB2.size ?_
                  intro v3 w3 hown3 hgrow3 hsm3
                  have hB3 := hB2.grown hgrow3 hB2.size (fun j hj => (hown2.lt j hj).1)
                  have hc3 := (hB3.cell (p := ⟨b, 0, none⟩) hbl).trans c0
                  have hfz3 := (rbox ((hB3.block b hbl).trans hbox)).2
                  refine hK.out _ _ ?_ (fun hNew => ?_)
                  · exact hc3
                  clear hK K hHeld
                  have hHeld := hNew
                  clear hNew
                  try simp only [Act.put, List.setIfInBounds_toArray, List.set_cons_zero, List.set_cons_succ]
                  refine tail_list (is := [21, 22, 23]) (l := _) (by kernel_rfl) (by kernel_rfl) (by kernel_rfl) rfl ?_
                  simp only [List.filterMap_cons, List.filterMap_nil, at21, at22, at23]
                  show wpList _ _ _ (_ :: _) _ _
                  have hown4 : w3.ownsRow w.heap.size 42 2 v3 (addC s n L).length (countR.flat (addC s n L)) := by
                    have h := hown3
                    rw [hL2.out]
                    have e1 : (L.take j ++ [(⟨s, n⟩ : Ct)] ++ L.drop j).length = 0 + (L.take j).length + [(⟨s, n⟩ : Ct)].length + (L.drop j).length := by simp; omega
                    rw [e1]
                    simp only [Rec.flat_app, List.append_assoc] at h ⊢
                    exact h
                  have hne3 : v3 ≠ .slice none 0 0 := fun h => by have := hsm1 (hsm2 (hsm3 h)); cases this
                  obtain ⟨gg, cc, rfl, hgg, -⟩ := own_some hown4 hne3
                  have hR4 := hidden hown4
                  have hB4 := hidden hB3
                  have hbox3 := hidden ((hB3.block b hbl).trans hbox)
                  clear hown1 hown2 hown3 hown4 hgrow1 hgrow2 hgrow3 hB1 hB2 hB3 hS1 hS2 hne3 hc1 hc2 hc3
                  go_wp2
                  all_goals
                    go_ret
                    refine ⟨rfl, some ⟨gg, 0, none⟩, cc, ⟨?_, ?_, hlow⟩, ?_, fun g2 hg2 => ?_⟩
                    · have := set_cell0 hbox3.out (.slice (some ⟨gg, 0, none⟩) (addC s n L).length cc)
                      simpa using this
                    · exact own_leT (own_set0 hR4.out hbox3.out) hBw
                    · exact ((SaveL.of_below hB4.out).trans (SaveL.setCell ⟨b, 0, none⟩ _ (by simp)))
                    · cases hg2; exact .inr hgg
                exact AllReadyH.nil
              exact AllReadyH.nil
            exact AllReadyH.nil
          refine AllReadyH.cons (i := 12) at12 (fun K hK => ?_) ?_
          · go_simp
            refine hK.out _ _ ?_ (fun hNew => ?_)
            · go_keep
            clear hK K hHeld
            have hHeld := hNew
            clear hNew
            try simp only [Act.put, List.setIfInBounds_toArray, List.set_cons_zero, List.set_cons_succ]
            refine wpAnyH_ready (rs := [8]) (by kernel_rfl) (by simp) ?_
            refine AllReadyH.cons (i := 8) at8 (fun K hK => ?_) ?_
            · refine step_appR countR rfl (.tmp 82) (.tmp 88) 29 rfl w.heap.size 42 i0 (.agg #[.string ⟨#[]⟩, .int .i64 0]) 2 24 Tryd.underlying29 hi hz0 hz1 hz2 rfl rfl (by simp [Act.eval]) ((World.ownsRow_lit (base := w.heap.size) (e := 42) (size := 2) w.drew.drew #[] 0 (Nat.le_refl _) (by decide) rfl).alloc (.cells #[.string s, .int .i64 n] 42)) (by simp [Act.eval]) (hS1.below (((Below.refl w.heap.size w).drew.drew.alloc (Nat.le_refl _) (.cells #[] 42)).alloc (by simp) (.cells #[.string s, .int .i64 n] 42))) (by simp only [hl1, hl2, List.length_cons, List.length_nil]; unfold maxLen; omega) (by simp only [hl1, hl2, List.length_cons, List.length_nil]; omega) (by simp <;> omega) ?_
              intro v1 w1 hown1 hgrow1 hsm1
              have hB1 := (((Below.refl w.heap.size w).drew.drew.alloc (Nat.le_refl _) (.cells #[] 42)).alloc (by simp) (.cells #[.string s, .int .i64 n] 42)).grown hgrow1 (by simp <;> omega) (fun j hj => by cases hj; simp)
              have h54 := (SlR.oneR (R := countR) (w.drew.drew.alloc (.cells #[] 42)) ⟨s, n⟩ 42).grownR hgrow1 (by simp [Value.ownBlock])
              have hc1 := (hB1.cell (p := ⟨b, 0, none⟩) hbl).trans c0
              refine hK.out _ _ ?_ (fun hNew => ?_)
              · exact hc1
              clear hK K hHeld
              have hHeld := hNew
              clear hNew
              try simp only [Act.put, List.setIfInBounds_toArray, List.set_cons_zero, List.set_cons_succ]
              refine wpAnyH_ready (rs := [13]) (by kernel_rfl) (by simp) ?_
              refine AllReadyH.cons (i := 13) at13 (fun K hK => ?_) ?_
              · refine step_appR countR rfl (.tmp 89) (.tmp 93) 29 rfl w.heap.size 42 i0 (.agg #[.string ⟨#[]⟩, .int .i64 0]) 2 24 Tryd.underlying29 hi hz0 hz1 hz2 rfl rfl (by simp [Act.eval]) hown1 (by simp [Act.eval]) h54 (by simp only [hl1, hl2, List.length_cons, List.length_nil]; unfold maxLen; omega) (by simp only [hl1, hl2, List.length_cons, List.length_nil]; omega) hB1.size ?_
                intro v2 w2 hown2 hgrow2 hsm2
                have hB2 := hB1.grown hgrow2 hB1.size (fun j hj => (hown1.lt j hj).1)
                have hc2 := (hB2.cell (p := ⟨b, 0, none⟩) hbl).trans c0
                refine hK.out _ _ ?_ (fun hNew => ?_)
                · exact hc2
                clear hK K hHeld
                have hHeld := hNew
                clear hNew
                try simp only [Act.put, List.setIfInBounds_toArray, List.set_cons_zero, List.set_cons_succ]
                refine wpAnyH_ready (rs := [20]) (by kernel_rfl) (by simp) ?_
                refine AllReadyH.cons (i := 20) at20 (fun K hK => ?_) ?_
                · refine step_appR countR rfl (.tmp 94) (.tmp 100) 29 rfl w.heap.size 42 i0 (.agg #[.string ⟨#[]⟩, .int .i64 0]) 2 24 Tryd.underlying29 hi hz0 hz1 hz2 rfl rfl (by simp [Act.eval]) hown2 (by simp [Act.eval]) (hS2.below hB2) (by simp only [hl1, hl2, List.length_cons, List.length_nil]; unfold maxLen; omega) (by simp only [hl1, hl2, List.length_cons, List.length_nil]; omega) hB2.size ?_
                  intro v3 w3 hown3 hgrow3 hsm3
                  have hB3 := hB2.grown hgrow3 hB2.size (fun j hj => (hown2.lt j hj).1)
                  have hc3 := (hB3.cell (p := ⟨b, 0, none⟩) hbl).trans c0
                  have hfz3 := (rbox ((hB3.block b hbl).trans hbox)).2
                  refine hK.out _ _ ?_ (fun hNew => ?_)
                  · exact hc3
                  clear hK K hHeld
                  have hHeld := hNew
                  clear hNew
                  try simp only [Act.put, List.setIfInBounds_toArray, List.set_cons_zero, List.set_cons_succ]
                  refine tail_list (is := [21, 22, 23]) (l := _) (by kernel_rfl) (by kernel_rfl) (by kernel_rfl) rfl ?_
                  simp only [List.filterMap_cons, List.filterMap_nil, at21, at22, at23]
                  show wpList _ _ _ (_ :: _) _ _
                  have hown4 : w3.ownsRow w.heap.size 42 2 v3 (addC s n L).length (countR.flat (addC s n L)) := by
                    have h := hown3
                    rw [hL2.out]
                    have e1 : (L.take j ++ [(⟨s, n⟩ : Ct)] ++ L.drop j).length = 0 + (L.take j).length + [(⟨s, n⟩ : Ct)].length + (L.drop j).length := by simp; omega
                    rw [e1]
                    simp only [Rec.flat_app, List.append_assoc] at h ⊢
                    exact h
                  have hne3 : v3 ≠ .slice none 0 0 := fun h => by have := hsm1 (hsm2 (hsm3 h)); cases this
                  obtain ⟨gg, cc, rfl, hgg, -⟩ := own_some hown4 hne3
                  have hR4 := hidden hown4
                  have hB4 := hidden hB3
                  have hbox3 := hidden ((hB3.block b hbl).trans hbox)
                  clear hown1 hown2 hown3 hown4 hgrow1 hgrow2 hgrow3 hB1 hB2 hB3 hS1 hS2 hne3 hc1 hc2 hc3
                  go_wp2
                  all_goals
                    go_ret
                    refine ⟨rfl, some ⟨gg, 0, none⟩, cc, ⟨?_, ?_, hlow⟩, ?_, fun g2 hg2 => ?_⟩
                    · have := set_cell0 hbox3.out (.slice (some ⟨gg, 0, none⟩) (addC s n L).length cc)
                      simpa using this
                    · exact own_leT (own_set0 hR4.out hbox3.out) hBw
                    · exact ((SaveL.of_below hB4.out).trans (SaveL.setCell ⟨b, 0, none⟩ _ (by simp)))
                    · cases hg2; exact .inr hgg
                exact AllReadyH.nil
              exact AllReadyH.nil
            exact AllReadyH.nil
          exact AllReadyH.nil
        refine AllReadyH.cons (i := 12) at12 (fun K hK => ?_) ?_
        · go_simp
          refine hK.out _ _ ?_ (fun hNew => ?_)
          · go_keep
          clear hK K hHeld
          have hHeld := hNew
          clear hNew
          try simp only [Act.put, List.setIfInBounds_toArray, List.set_cons_zero, List.set_cons_succ]
          refine wpAnyH_ready (rs := [1]) (by kernel_rfl) (by simp) ?_
          refine AllReadyH.cons (i := 1) at1 (fun K hK => ?_) ?_
          · go_simp
            refine hK.out _ _ ?_ (fun hNew => ?_)
            · go_keep
            clear hK K hHeld
            have hHeld := hNew
            clear hNew
            try simp only [Act.put, List.setIfInBounds_toArray, List.set_cons_zero, List.set_cons_succ]
            refine wpAnyH_ready (rs := [8]) (by kernel_rfl) (by simp) ?_
            refine AllReadyH.cons (i := 8) at8 (fun K hK => ?_) ?_
            · refine step_appR countR rfl (.tmp 82) (.tmp 88) 29 rfl w.heap.size 42 i0 (.agg #[.string ⟨#[]⟩, .int .i64 0]) 2 24 Tryd.underlying29 hi hz0 hz1 hz2 rfl rfl (by simp [Act.eval]) (World.ownsRow_lit (base := w.heap.size) (e := 42) (size := 2) (w.drew.drew.alloc (.cells #[.string s, .int .i64 n] 42)) #[] 0 (by simp) (by decide) rfl) (by simp [Act.eval]) (hS1.below (((Below.refl w.heap.size w).drew.drew.alloc (Nat.le_refl _) (.cells #[.string s, .int .i64 n] 42)).alloc (by simp) (.cells #[] 42))) (by simp only [hl1, hl2, List.length_cons, List.length_nil]; unfold maxLen; omega) (by simp only [hl1, hl2, List.length_cons, List.length_nil]; omega) (by simp <;> omega) ?_
              intro v1 w1 hown1 hgrow1 hsm1
              have hB1 := (((Below.refl w.heap.size w).drew.drew.alloc (Nat.le_refl _) (.cells #[.string s, .int .i64 n] 42)).alloc (by simp) (.cells #[] 42)).grown hgrow1 (by simp <;> omega) (fun j hj => by cases hj; simp)
              have h54 := ((SlR.oneR (R := countR) w.drew.drew ⟨s, n⟩ 42).alloc (.cells #[] 42)).grownR hgrow1 (by simp [Value.ownBlock])
              have hc1 := (hB1.cell (p := ⟨b, 0, none⟩) hbl).trans c0
              refine hK.out _ _ ?_ (fun hNew => ?_)
              · exact hc1
              clear hK K hHeld
              have hHeld := hNew
              clear hNew
              try simp only [Act.put, List.setIfInBounds_toArray, List.set_cons_zero, List.set_cons_succ]
              refine wpAnyH_ready (rs := [13]) (by kernel_rfl) (by simp) ?_
              refine AllReadyH.cons (i := 13) at13 (fun K hK => ?_) ?_
              · refine step_appR countR rfl (.tmp 89) (.tmp 93) 29 rfl w.heap.size 42 i0 (.agg #[.string ⟨#[]⟩, .int .i64 0]) 2 24 Tryd.underlying29 hi hz0 hz1 hz2 rfl rfl (by simp [Act.eval]) hown1 (by simp [Act.eval]) h54 (by simp only [hl1, hl2, List.length_cons, List.length_nil]; unfold maxLen; omega) (by simp only [hl1, hl2, List.length_cons, List.length_nil]; omega) hB1.size ?_
                intro v2 w2 hown2 hgrow2 hsm2
                have hB2 := hB1.grown hgrow2 hB1.size (fun j hj => (hown1.lt j hj).1)
                have hc2 := (hB2.cell (p := ⟨b, 0, none⟩) hbl).trans c0
                refine hK.out _ _ ?_ (fun hNew => ?_)
                · exact hc2
                clear hK K hHeld
                have hHeld := hNew
                clear hNew
                try simp only [Act.put, List.setIfInBounds_toArray, List.set_cons_zero, List.set_cons_succ]
                refine wpAnyH_ready (rs := [20]) (by kernel_rfl) (by simp) ?_
                refine AllReadyH.cons (i := 20) at20 (fun K hK => ?_) ?_
                · refine step_appR countR rfl (.tmp 94) (.tmp 100) 29 rfl w.heap.size 42 i0 (.agg #[.string ⟨#[]⟩, .int .i64 0]) 2 24 Tryd.underlying29 hi hz0 hz1 hz2 rfl rfl (by simp [Act.eval]) hown2 (by simp [Act.eval]) (hS2.below hB2) (by simp only [hl1, hl2, List.length_cons, List.length_nil]; unfold maxLen; omega) (by simp only [hl1, hl2, List.length_cons, List.length_nil]; omega) hB2.size ?_
                  intro v3 w3 hown3 hgrow3 hsm3
                  have hB3 := hB2.grown hgrow3 hB2.size (fun j hj => (hown2.lt j hj).1)
                  have hc3 := (hB3.cell (p := ⟨b, 0, none⟩) hbl).trans c0
                  have hfz3 := (rbox ((hB3.block b hbl).trans hbox)).2
                  refine hK.out _ _ ?_ (fun hNew => ?_)
                  · exact hc3
                  clear hK K hHeld
                  have hHeld := hNew
                  clear hNew
                  try simp only [Act.put, List.setIfInBounds_toArray, List.set_cons_zero, List.set_cons_succ]
                  refine tail_list (is := [21, 22, 23]) (l := _) (by kernel_rfl) (by kernel_rfl) (by kernel_rfl) rfl ?_
                  simp only [List.filterMap_cons, List.filterMap_nil, at21, at22, at23]
                  show wpList _ _ _ (_ :: _) _ _
                  have hown4 : w3.ownsRow w.heap.size 42 2 v3 (addC s n L).length (countR.flat (addC s n L)) := by
                    have h := hown3
                    rw [hL2.out]
                    have e1 : (L.take j ++ [(⟨s, n⟩ : Ct)] ++ L.drop j).length = 0 + (L.take j).length + [(⟨s, n⟩ : Ct)].length + (L.drop j).length := by simp; omega
                    rw [e1]
                    simp only [Rec.flat_app, List.append_assoc] at h ⊢
                    exact h
                  have hne3 : v3 ≠ .slice none 0 0 := fun h => by have := hsm1 (hsm2 (hsm3 h)); cases this
                  obtain ⟨gg, cc, rfl, hgg, -⟩ := own_some hown4 hne3
                  have hR4 := hidden hown4
                  have hB4 := hidden hB3
                  have hbox3 := hidden ((hB3.block b hbl).trans hbox)
                  clear hown1 hown2 hown3 hown4 hgrow1 hgrow2 hgrow3 hB1 hB2 hB3 hS1 hS2 hne3 hc1 hc2 hc3
                  go_wp2
                  all_goals
                    go_ret
                    refine ⟨rfl, some ⟨gg, 0, none⟩, cc, ⟨?_, ?_, hlow⟩, ?_, fun g2 hg2 => ?_⟩
                    · have := set_cell0 hbox3.out (.slice (some ⟨gg, 0, none⟩) (addC s n L).length cc)
                      simpa using this
                    · exact own_leT (own_set0 hR4.out hbox3.out) hBw
                    · exact ((SaveL.of_below hB4.out).trans (SaveL.setCell ⟨b, 0, none⟩ _ (by simp)))
                    · cases hg2; exact .inr hgg
                exact AllReadyH.nil
              exact AllReadyH.nil
            exact AllReadyH.nil
          exact AllReadyH.nil
        exact AllReadyH.nil
end Go.Proofs.YtoijkbnjcnedjaaDoor
