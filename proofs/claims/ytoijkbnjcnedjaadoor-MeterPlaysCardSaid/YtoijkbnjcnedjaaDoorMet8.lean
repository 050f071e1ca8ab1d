/-
  METERS: the reference's Add, by contract, all ways together.
-/
import Derived.Test.YtoijkbnjcnedjaaDoorMet7
namespace Go.Proofs.YtoijkbnjcnedjaaDoor
open Go.ChangeShapes Go.WideShapes Go.ChangeAt Go.RowKit Go.Maps

set_option maxHeartbeats 6400000 in
set_option maxRecDepth 100000 in
theorem raddNil_c {B : Nat} {b : Nat} {c : Nat} {m : Int} {L : List Ct} (s : ByteArray) (n : Int) (w : World) (hbox : w.heap[b]? = some (.cells #[.slice none L.length c, .int .i64 m] 31)) (hrow : w.ownsRow B 42 2 (.slice none L.length c) L.length (countR.flat L)) (hlow : b < B) (hBw : B ≤ w.heap.size) (hF : Fine m L) (hm2 : m ≤ 1000000000000) (hs : s.size ≤ 40) (hns : nameS s) (hn0 : ¬ n < 0) (hnm : ¬ m - sumC L < n) (hl : L.length ≤ 100000) (hn1 : 0 < n) (hL0 : L = []) (hc0 : c = 0) :
    Calls Tryd.prog 9 #[.pointer (some ⟨b, 0, none⟩), .string s, .int .i64 n] w fun e w' => ∃ (a' : Option Addr) (c' : Nat), e = .returned (.int .i64 0) ∧ RMt B w' b a' c' m (addC s n L) ∧ SaveL (b :: rowb none) w w' ∧ (∀ g2, (Value.slice a' (addC s n L).length c').ownBlock = some g2 → (Value.slice none L.length c).ownBlock = some g2 ∨ w.heap.size ≤ g2) := by
  have hnc := rname_c s w (by omega)
  rw [show decide (nameS s) = true by simpa using hns] at hnc
  have hall := rall_c w.drew ((⟨hbox, hrow, hlow⟩ : RMt B w b none c m L).below (Below.refl _ _).drew) hF hm2 (by omega)
  obtain ⟨⟨c0, c1⟩, f0⟩ := rbox hbox
  have hbl := (Array.getElem?_eq_some_iff.1 hbox).1
  have hS0 := hF.nonneg
  have hS1 := hF.small
  have hw : IntKind.i64.wrap (m - sumC L) = m - sumC L := by rw [IntKind.wrap_i64]; omega
  obtain ⟨i0, hi, hz0, hz1, hz2⟩ := info_parts infoC
  have hLl : L.length = 0 := by rw [hL0]; rfl
  rw [hLl, hc0] at c0
  have hL2 := hidden (addC_new s n L 0 (Nat.zero_le _) (fun i hi => absurd hi (Nat.not_lt_zero i)) (fun h => absurd h (by rw [hLl]; omega)))
  have hl1 : (L.take 0).length = 0 := rfl
  have hl2 : (L.drop 0).length = 0 := hLl
  have hS1 : SlR countR w (.slice none 0 0) (L.take 0) := SlR.nil w
  have hS2 : SlR countR w (.slice none 0 0) (L.drop 0) := by rw [List.drop_zero, hL0]; exact SlR.nil w
  subst hc0
  replace hL0 := hidden hL0
  replace hLl := hidden hLl
  clear hrow
  go_enter Tryd.func9, Tryd.ntmps9
  go_wp2_with fail
  refine hnc.mono ?_
  rintro e w' ⟨rfl, rfl⟩
  rename World => w
  go_wp2_with fail
  go_region_held3 (fun z => z.cell? ⟨b, 1, none⟩ = some (.int .i64 m)) (first | assumption | go_keep) (first
    | (go_at_call 11; refine hall.mono ?_; rintro e w1 ⟨rfl, rfl⟩)
    | fail)
  clear hnc hall
  go_wp2
  go_loop [7] (fun u => u = .int .i64 0) (fun _ => 0)
  case atStart => rfl
  case round =>
    subst hrel
    clear hw
    go_wp2_with fail
    refine wp_region_parts (S := (fun z => z.cell? ⟨b, 0, none⟩ = some (.slice none 0 0))) #[false, false, false, false, false, false, false, false, false, false, false, false, false, false, false, false, false, false, false, false, false, true, true, true] #[true, true, true, true, true, true, true, true, true, true, true, true, true, true, true, true, true, true, true, true, true, false, false, false] [21, 22, 23] 40 21 (by kernel_rfl) (by kernel_rfl) (by kernel_rfl) (by rfl) ?_ (fun hHeld => ?_)
    · go_keep
    first
      | (refine wpAnyH_take (i := 0) (v := ?_) at0 (by kernel_rfl) (by kernel_rfl) (by kernel_rfl) (fun _ _ _ h => h) (Or.inl ⟨by rfl, ?_⟩) (by assumption) ?_
         rotate_left
         · intro w hSw; (try dsimp only at hSw); go_simp; try with_reducible rfl)
      | fail "take 0"
    try simp only [Act.put, List.setIfInBounds_toArray, List.set_cons_zero, List.set_cons_succ]
    first
      | (refine wpAnyH_take (i := 2) (v := ?_) at2 (by kernel_rfl) (by kernel_rfl) (by kernel_rfl) (fun _ _ _ h => h) (Or.inl ⟨by rfl, ?_⟩) (by assumption) ?_
         rotate_left
         · intro w hSw; (try dsimp only at hSw); go_simp; try with_reducible rfl)
      | fail "take 2"
    try simp only [Act.put, List.setIfInBounds_toArray, List.set_cons_zero, List.set_cons_succ]
    first
      | (refine wpAnyH_take (i := 3) (v := ?_) at3 (by kernel_rfl) (by kernel_rfl) (by kernel_rfl) (fun _ _ _ h => h) (Or.inl ⟨by rfl, ?_⟩) (by assumption) ?_
         rotate_left
         · intro w hSw; (try dsimp only at hSw); go_simp; try with_reducible rfl)
      | fail "take 3"
    try simp only [Act.put, List.setIfInBounds_toArray, List.set_cons_zero, List.set_cons_succ]
    first
      | (refine wpAnyH_take (i := 4) (v := ?_) at4 (by kernel_rfl) (by kernel_rfl) (by kernel_rfl) (fun _ _ _ h => h) (Or.inl ⟨by rfl, ?_⟩) (by assumption) ?_
         rotate_left
         · intro w hSw; (try dsimp only at hSw); go_simp; try with_reducible rfl)
      | fail "take 4"
    try simp only [Act.put, List.setIfInBounds_toArray, List.set_cons_zero, List.set_cons_succ]
    first
      | (refine wpAnyH_take (i := 5) (v := ?_) at5 (by kernel_rfl) (by kernel_rfl) (by kernel_rfl) (fun _ _ _ h => h) (Or.inl ⟨by rfl, ?_⟩) (by assumption) ?_
         rotate_left
         · intro w hSw; (try dsimp only at hSw); go_simp; try with_reducible rfl)
      | fail "take 5"
    try simp only [Act.put, List.setIfInBounds_toArray, List.set_cons_zero, List.set_cons_succ]
    first
      | (refine wpAnyH_take (i := 6) (v := ?_) at6 (by kernel_rfl) (by kernel_rfl) (by kernel_rfl) (fun _ _ _ h => h) (Or.inl ⟨by rfl, ?_⟩) (by assumption) ?_
         rotate_left
         · intro w hSw; (try dsimp only at hSw); go_simp; try with_reducible rfl)
      | fail "take 6"
    try simp only [Act.put, List.setIfInBounds_toArray, List.set_cons_zero, List.set_cons_succ]
    first
      | (refine wpAnyH_take (i := 7) (v := ?_) at7 (by kernel_rfl) (by kernel_rfl) (by kernel_rfl) (fun _ _ _ h => h) (Or.inl ⟨by rfl, ?_⟩) (by assumption) ?_
         rotate_left
         · intro w hSw; (try dsimp only at hSw); go_simp; try with_reducible rfl)
      | fail "take 7"
    try simp only [Act.put, List.setIfInBounds_toArray, List.set_cons_zero, List.set_cons_succ]
    first
      | (refine wpAnyH_take (i := 9) (v := ?_) at9 (by kernel_rfl) (by kernel_rfl) (by kernel_rfl) (fun _ _ _ h => h) (Or.inl ⟨by rfl, ?_⟩) (by assumption) ?_
         rotate_left
         · intro w hSw; (try dsimp only at hSw); go_simp; try with_reducible rfl)
      | fail "take 9"
    try simp only [Act.put, List.setIfInBounds_toArray, List.set_cons_zero, List.set_cons_succ]
    first
      | (refine wpAnyH_take (i := 10) (v := ?_) at10 (by kernel_rfl) (by kernel_rfl) (by kernel_rfl) (fun _ _ _ h => h) (Or.inl ⟨by rfl, ?_⟩) (by assumption) ?_
         rotate_left
         · intro w hSw; (try dsimp only at hSw); go_simp; try with_reducible rfl)
      | fail "take 10"
    try simp only [Act.put, List.setIfInBounds_toArray, List.set_cons_zero, List.set_cons_succ]
    first
      | (refine wpAnyH_take (i := 11) (v := ?_) at11 (by kernel_rfl) (by kernel_rfl) (by kernel_rfl) (fun _ _ _ h => h) (Or.inl ⟨by rfl, ?_⟩) (by assumption) ?_
         rotate_left
         · intro w hSw; (try dsimp only at hSw); go_simp; try with_reducible rfl)
      | fail "take 11"
    try simp only [Act.put, List.setIfInBounds_toArray, List.set_cons_zero, List.set_cons_succ]
    first
      | (refine wpAnyH_take (i := 14) (v := ?_) at14 (by kernel_rfl) (by kernel_rfl) (by kernel_rfl) (fun _ _ _ h => h) (Or.inl ⟨by rfl, ?_⟩) (by assumption) ?_
         rotate_left
         · intro w hSw; (try dsimp only at hSw); go_simp; try with_reducible rfl)
      | fail "take 14"
    try simp only [Act.put, List.setIfInBounds_toArray, List.set_cons_zero, List.set_cons_succ]
    first
      | (refine wpAnyH_take (i := 15) (v := ?_) at15 (by kernel_rfl) (by kernel_rfl) (by kernel_rfl) (fun _ _ _ h => h) (Or.inl ⟨by rfl, ?_⟩) (by assumption) ?_
         rotate_left
         · intro w hSw; (try dsimp only at hSw); go_simp; try with_reducible rfl)
      | fail "take 15"
    try simp only [Act.put, List.setIfInBounds_toArray, List.set_cons_zero, List.set_cons_succ]
    first
      | (refine wpAnyH_take (i := 16) (v := ?_) at16 (by kernel_rfl) (by kernel_rfl) (by kernel_rfl) (fun _ _ _ h => h) (Or.inl ⟨by rfl, ?_⟩) (by assumption) ?_
         rotate_left
         · intro w hSw; (try dsimp only at hSw); go_simp; try with_reducible rfl)
      | fail "take 16"
    try simp only [Act.put, List.setIfInBounds_toArray, List.set_cons_zero, List.set_cons_succ]
    first
      | (refine wpAnyH_take (i := 17) (v := ?_) at17 (by kernel_rfl) (by kernel_rfl) (by kernel_rfl) (fun _ _ _ h => h) (Or.inl ⟨by rfl, ?_⟩) (by assumption) ?_
         rotate_left
         · intro w hSw; (try dsimp only at hSw); go_simp; try with_reducible rfl)
      | fail "take 17"
    try simp only [Act.put, List.setIfInBounds_toArray, List.set_cons_zero, List.set_cons_succ]
    first
      | (refine wpAnyH_take (i := 18) (v := ?_) at18 (by kernel_rfl) (by kernel_rfl) (by kernel_rfl) (fun _ _ _ h => h) (Or.inl ⟨by rfl, ?_⟩) (by assumption) ?_
         rotate_left
         · intro w hSw; (try dsimp only at hSw); go_simp; try with_reducible rfl)
      | fail "take 18"
    try simp only [Act.put, List.setIfInBounds_toArray, List.set_cons_zero, List.set_cons_succ]
    first
      | (refine wpAnyH_take (i := 19) (v := ?_) at19 (by kernel_rfl) (by kernel_rfl) (by kernel_rfl) (fun _ _ _ h => h) (Or.inl ⟨by rfl, ?_⟩) (by assumption) ?_
         rotate_left
         · intro w hSw; (try dsimp only at hSw); go_simp; try with_reducible rfl)
      | fail "take 19"
    try simp only [Act.put, List.setIfInBounds_toArray, List.set_cons_zero, List.set_cons_succ]
    refine wpAnyH_ready (rs := [1, 12]) (by kernel_rfl) (by simp) ?_
    refine AllReadyH.cons (i := 1) at1 (fun K hK => ?_) ?_
    · go_simp
      refine hK.out _ _ ?_ (fun hNew => ?_)
      · go_keep
      clear hK K hHeld
      have hHeld := hNew
      clear hNew
      try simp only [Act.put, List.setIfInBounds_toArray, List.set_cons_zero, List.set_cons_succ]
      refine wpAnyH_ready (rs := [8, 12]) (by kernel_rfl) (by simp) ?_
      refine AllReadyH.cons (i := 8) at8 (fun K hK => ?_) ?_
      · refine step_appR countR rfl (.tmp 82) (.tmp 88) 29 rfl w.heap.size 42 i0 (.agg #[.string ⟨#[]⟩, .int .i64 0]) 2 24 Tryd.underlying29 hi hz0 hz1 hz2 rfl rfl (by simp [Act.eval]) (World.ownsRow_lit (base := w.heap.size) (e := 42) (size := 2) w.drew.drew #[] 0 (Nat.le_refl _) (by decide) rfl) (by simp [Act.eval]) (hS1.below ((Below.refl w.heap.size w).drew.drew.alloc (Nat.le_refl _) (.cells #[] 42))) (by simp only [hl1, hl2, List.length_cons, List.length_nil]; unfold maxLen; omega) (by simp only [hl1, hl2, List.length_cons, List.length_nil]; omega) (by simp <;> omega) ?_
        intro v1 w1 hown1 hgrow1 hsm1
        have hB1 := ((Below.refl w.heap.size w).drew.drew.alloc (Nat.le_refl _) (.cells #[] 42)).grown hgrow1 (by simp <;> omega) (fun j hj => by cases hj; simp)
        have hc1 := (hB1.cell (p := ⟨b, 0, none⟩) hbl).trans c0
        refine hK.out _ _ ?_ (fun hNew => ?_)
        · exact hc1
        clear hK K hHeld
        have hHeld := hNew
        clear hNew
        try simp only [Act.put, List.setIfInBounds_toArray, List.set_cons_zero, List.set_cons_succ]
        refine wpAnyH_ready (rs := [12]) (by kernel_rfl) (by simp) ?_
        refine AllReadyH.cons (i := 12) at12 (fun K hK => ?_) ?_
        · go_simp
          refine hK.out _ _ ?_ (fun hNew => ?_)
          · go_keep
          clear hK K hHeld
          have hHeld := hNew
          clear hNew
          try simp only [Act.put, List.setIfInBounds_toArray, List.set_cons_zero, List.set_cons_succ]
          refine wpAnyH_ready (rs := [13]) (by kernel_rfl) (by simp) ?_
          refine AllReadyH.cons (i := 13) at13 (fun K hK => ?_) ?_
          · refine step_appR countR rfl (.tmp 89) (.tmp 93) 29 rfl w.heap.size 42 i0 (.agg #[.string ⟨#[]⟩, .int .i64 0]) 2 24 Tryd.underlying29 hi hz0 hz1 hz2 rfl rfl (by simp [Act.eval]) (hown1.alloc (.cells #[.string s, .int .i64 n] 42)) (by simp [Act.eval]) (SlR.oneR (R := countR) w1 ⟨s, n⟩ 42) (by simp only [hl1, hl2, List.length_cons, List.length_nil]; unfold maxLen; omega) (by simp only [hl1, hl2, List.length_cons, List.length_nil]; omega) (by simp; exact Nat.le_succ_of_le hB1.size) ?_
            intro v2 w2 hown2 hgrow2 hsm2
            have hB2 := (hB1.alloc hB1.size (.cells #[.string s, .int .i64 n] 42)).grown hgrow2 (by simp; exact Nat.le_succ_of_le hB1.size) (fun j hj => (hown1.lt j hj).1)
            have hc2 := (hB2.cell (p := ⟨b, 0, none⟩) hbl).trans c0
            refine hK.out _ _ ?_ (fun hNew => ?_)
            · exact hc2
            clear hK K hHeld
            have hHeld := hNew
            clear hNew
            try simp only [Act.put, List.setIfInBounds_toArray, List.set_cons_zero, List.set_cons_succ]
            refine wpAnyH_ready (rs := [20]) (by kernel_rfl) (by simp) ?_
            refine AllReadyH.cons (i := 20) at20 (fun K hK => ?_) ?_
            · refine step_appR countR rfl (.tmp 94) (.tmp 100) 29 rfl w.heap.size 42 i0 (.agg #[.string ⟨#[]⟩, .int .i64 0]) 2 24 Tryd.underlying29 hi hz0 hz1 hz2 rfl rfl (by simp [Act.eval]) hown2 (by simp [Act.eval]) (hS2.below hB2) (by simp only [hl1, hl2, List.length_cons, List.length_nil]; unfold maxLen; omega) (by simp only [hl1, hl2, List.length_cons, List.length_nil]; omega) hB2.size ?_
              intro v3 w3 hown3 hgrow3 hsm3
              have hB3 := hB2.grown hgrow3 hB2.size (fun j hj => (hown2.lt j hj).1)
              have hc3 := (hB3.cell (p := ⟨b, 0, none⟩) hbl).trans c0
              have hfz3 := (rbox ((hB3.block b hbl).trans hbox)).2
              refine hK.out _ _ ?_ (fun hNew => ?_)
              · exact hc3
              clear hK K hHeld
              have hHeld := hNew
              clear hNew
              try simp only [Act.put, List.setIfInBounds_toArray, List.set_cons_zero, List.set_cons_succ]
              refine tail_list (is := [21, 22, 23]) (l := _) (by kernel_rfl) (by kernel_rfl) (by kernel_rfl) rfl ?_
              simp only [List.filterMap_cons, List.filterMap_nil, at21, at22, at23]
              show wpList _ _ _ (_ :: _) _ _
              have hown4 : w3.ownsRow w.heap.size 42 2 v3 (addC s n L).length (countR.flat (addC s n L)) := by
                have h := hown3
                rw [hL2.out]
                have e1 : (L.take 0 ++ [(⟨s, n⟩ : Ct)] ++ L.drop 0).length = 0 + (L.take 0).length + [(⟨s, n⟩ : Ct)].length + (L.drop 0).length := by simp; omega
                rw [e1]
                simp only [Rec.flat_app, List.append_assoc] at h ⊢
                exact h
              have hne3 : v3 ≠ .slice none 0 0 := fun h => by have := hsm1 (hsm2 (hsm3 h)); cases this
              obtain ⟨gg, cc, rfl, hgg, -⟩ := own_some hown4 hne3
              have hR4 := hidden hown4
              have hB4 := hidden hB3
              have hbox3 := hidden ((hB3.block b hbl).trans hbox)
              clear hown1 hown2 hown3 hown4 hgrow1 hgrow2 hgrow3 hB1 hB2 hB3 hS1 hS2 hne3 hc1 hc2 hc3
              go_wp2
              all_goals
                go_ret
                refine ⟨some ⟨gg, 0, none⟩, cc, rfl, ⟨?_, ?_, hlow⟩, ?_, fun g2 hg2 => ?_⟩
                · have := set_cell0 hbox3.out (.slice (some ⟨gg, 0, none⟩) (addC s n L).length cc)
                  simpa using this
                · exact own_leT (own_set0 hR4.out hbox3.out) hBw
                · exact ((SaveL.of_below hB4.out).trans (SaveL.setCell ⟨b, 0, none⟩ _ (by simp)))
                · cases hg2; exact .inr hgg
            exact AllReadyH.nil
          exact AllReadyH.nil
        exact AllReadyH.nil
      refine AllReadyH.cons (i := 12) at12 (fun K hK => ?_) ?_
      · go_simp
        refine hK.out _ _ ?_ (fun hNew => ?_)
        · go_keep
        clear hK K hHeld
        have hHeld := hNew
        clear hNew
        try simp only [Act.put, List.setIfInBounds_toArray, List.set_cons_zero, List.set_cons_succ]
        refine wpAnyH_ready (rs := [8]) (by kernel_rfl) (by simp) ?_
        refine AllReadyH.cons (i := 8) at8 (fun K hK => ?_) ?_
        · refine step_appR countR rfl (.tmp 82) (.tmp 88) 29 rfl w.heap.size 42 i0 (.agg #[.string ⟨#[]⟩, .int .i64 0]) 2 24 Tryd.underlying29 hi hz0 hz1 hz2 rfl rfl (by simp [Act.eval]) ((World.ownsRow_lit (base := w.heap.size) (e := 42) (size := 2) w.drew.drew #[] 0 (Nat.le_refl _) (by decide) rfl).alloc (.cells #[.string s, .int .i64 n] 42)) (by simp [Act.eval]) (hS1.below (((Below.refl w.heap.size w).drew.drew.alloc (Nat.le_refl _) (.cells #[] 42)).alloc (by simp) (.cells #[.string s, .int .i64 n] 42))) (by simp only [hl1, hl2, List.length_cons, List.length_nil]; unfold maxLen; omega) (by simp only [hl1, hl2, List.length_cons, List.length_nil]; omega) (by simp <;> omega) ?_
          intro v1 w1 hown1 hgrow1 hsm1
          have hB1 := (((Below.refl w.heap.size w).drew.drew.alloc (Nat.le_refl _) (.cells #[] 42)).alloc (by simp) (.cells #[.string s, .int .i64 n] 42)).grown hgrow1 (by simp <;> omega) (fun j hj => by cases hj; simp)
          have h54 := (SlR.oneR (R := countR) (w.drew.drew.alloc (.cells #[] 42)) ⟨s, n⟩ 42).grownR hgrow1 (by simp [Value.ownBlock])
          have hc1 := (hB1.cell (p := ⟨b, 0, none⟩) hbl).trans c0
          refine hK.out _ _ ?_ (fun hNew => ?_)
          · exact hc1
          clear hK K hHeld
          have hHeld := hNew
          clear hNew
          try simp only [Act.put, List.setIfInBounds_toArray, List.set_cons_zero, List.set_cons_succ]
          refine wpAnyH_ready (rs := [13]) (by kernel_rfl) (by simp) ?_
          refine AllReadyH.cons (i := 13) at13 (fun K hK => ?_) ?_
          · refine step_appR countR rfl (.tmp 89) (.tmp 93) 29 rfl w.heap.size 42 i0 (.agg #[.string ⟨#[]⟩, .int .i64 0]) 2 24 Tryd.underlying29 hi hz0 hz1 hz2 rfl rfl (by simp [Act.eval]) hown1 (by simp [Act.eval]) h54 (by simp only [hl1, hl2, List.length_cons, List.length_nil]; unfold maxLen; omega) (by simp only [hl1, hl2, List.length_cons, List.length_nil]; omega) hB1.size ?_
            intro v2 w2 hown2 hgrow2 hsm2
            have hB2 := hB1.grown hgrow2 hB1.size (fun j hj => (hown1.lt j hj).1)
            have hc2 := (hB2.cell (p := ⟨b, 0, none⟩) hbl).trans c0
            refine hK.out _ _ ?_ (fun hNew => ?_)
            · exact hc2
            clear hK K hHeld
            have hHeld := hNew
            clear hNew
            try simp only [Act.put, List.setIfInBounds_toArray, List.set_cons_zero, List.set_cons_succ]
            refine wpAnyH_ready (rs := [20]) (by kernel_rfl) (by simp) ?_
            refine AllReadyH.cons (i := 20) at20 (fun K hK => ?_) ?_
            · refine step_appR countR rfl (.tmp 94) (.tmp 100) 29 rfl w.heap.size 42 i0 (.agg #[.string ⟨#[]⟩, .int .i64 0]) 2 24 Tryd.underlying29 hi hz0 hz1 hz2 rfl rfl (by simp [Act.eval]) hown2 (by simp [Act.eval]) (hS2.below hB2) (by simp only [hl1, hl2, List.length_cons, List.length_nil]; unfold maxLen; omega) (by simp only [hl1, hl2, List.length_cons, List.length_nil]; omega) hB2.size ?_
              intro v3 w3 hown3 hgrow3 hsm3
              have hB3 := hB2.grown hgrow3 hB2.size (fun j hj => (hown2.lt j hj).1)
              have hc3 := (hB3.cell (p := ⟨b, 0, none⟩) hbl).trans c0
              have hfz3 := (rbox ((hB3.block b hbl).trans hbox)).2
              refine hK.out _ _ ?_ (fun hNew => ?_)
              · exact hc3
              clear hK K hHeld
              have hHeld := hNew
              clear hNew
              try simp only [Act.put, List.setIfInBounds_toArray, List.set_cons_zero, List.set_cons_succ]
              refine tail_list (is := [21, 22, 23]) (l := _) (by kernel_rfl) (by kernel_rfl) (by kernel_rfl) rfl ?_
              simp only [List.filterMap_cons, List.filterMap_nil, at21, at22, at23]
              show wpList _ _ _ (_ :: _) _ _
              have hown4 : w3.ownsRow w.heap.size 42 2 v3 (addC s n L).length (countR.flat (addC s n L)) := by
                have h := hown3
                rw [hL2.out]
                have e1 : (L.take 0 ++ [(⟨s, n⟩ : Ct)] ++ L.drop 0).length = 0 + (L.take 0).length + [(⟨s, n⟩ : Ct)].length + (L.drop 0).length := by simp; omega
                rw [e1]
                simp only [Rec.flat_app, List.append_assoc] at h ⊢
                exact h
              have hne3 : v3 ≠ .slice none 0 0 := fun h => by have := hsm1 (hsm2 (hsm3 h)); cases this
              obtain ⟨gg, cc, rfl, hgg, -⟩ := own_some hown4 hne3
              have hR4 := hidden hown4
              have hB4 := hidden hB3
              have hbox3 := hidden ((hB3.block b hbl).trans hbox)
              clear hown1 hown2 hown3 hown4 hgrow1 hgrow2 hgrow3 hB1 hB2 hB3 hS1 hS2 hne3 hc1 hc2 hc3
              go_wp2
              all_goals
                go_ret
                refine ⟨some ⟨gg, 0, none⟩, cc, rfl, ⟨?_, ?_, hlow⟩, ?_, fun g2 hg2 => ?_⟩
                · have := set_cell0 hbox3.out (.slice (some ⟨gg, 0, none⟩) (addC s n L).length cc)
                  simpa using this
                · exact own_leT (own_set0 hR4.out hbox3.out) hBw
                · exact ((SaveL.of_below hB4.out).trans (SaveL.setCell ⟨b, 0, none⟩ _ (by simp)))
                · cases hg2; exact .inr hgg
            exact AllReadyH.nil
          exact AllReadyH.nil
        exact AllReadyH.nil
      exact AllReadyH.nil
    refine AllReadyH.cons (i := 12) at12 (fun K hK => ?_) ?_
    · go_simp
      refine hK.out _ _ ?_ (fun hNew => ?_)
      · go_keep
      clear hK K hHeld
      have hHeld := hNew
      clear hNew
      try simp only [Act.put, List.setIfInBounds_toArray, List.set_cons_zero, List.set_cons_succ]
      refine wpAnyH_ready (rs := [1]) (by kernel_rfl) (by simp) ?_
      refine AllReadyH.cons (i := 1) at1 (fun K hK => ?_) ?_
      · go_simp
        refine hK.out _ _ ?_ (fun hNew => ?_)
        · go_keep
        clear hK K hHeld
        have hHeld := hNew
        clear hNew
        try simp only [Act.put, List.setIfInBounds_toArray, List.set_cons_zero, List.set_cons_succ]
        refine wpAnyH_ready (rs := [8]) (by kernel_rfl) (by simp) ?_
        refine AllReadyH.cons (i := 8) at8 (fun K hK => ?_) ?_
        · refine step_appR countR rfl (.tmp 82) (.tmp 88) 29 rfl w.heap.size 42 i0 (.agg #[.string ⟨#[]⟩, .int .i64 0]) 2 24 Tryd.underlying29 hi hz0 hz1 hz2 rfl rfl (by simp [Act.eval]) (World.ownsRow_lit (base := w.heap.size) (e := 42) (size := 2) (w.drew.drew.alloc (.cells #[.string s, .int .i64 n] 42)) #[] 0 (by simp) (by decide) rfl) (by simp [Act.eval]) (hS1.below (((Below.refl w.heap.size w).drew.drew.alloc (Nat.le_refl _) (.cells #[.string s, .int .i64 n] 42)).alloc (by simp) (.cells #[] 42))) (by simp only [hl1, hl2, List.length_cons, List.length_nil]; unfold maxLen; omega) (by simp only [hl1, hl2, List.length_cons, List.length_nil]; omega) (by simp <;> omega) ?_
          intro v1 w1 hown1 hgrow1 hsm1
          have hB1 := (((Below.refl w.heap.size w).drew.drew.alloc (Nat.le_refl _) (.cells #[.string s, .int .i64 n] 42)).alloc (by simp) (.cells #[] 42)).grown hgrow1 (by simp <;> omega) (fun j hj => by cases hj; simp)
          have h54 := ((SlR.oneR (R := countR) w.drew.drew ⟨s, n⟩ 42).alloc (.cells #[] 42)).grownR hgrow1 (by simp [Value.ownBlock])
          have hc1 := (hB1.cell (p := ⟨b, 0, none⟩) hbl).trans c0
          refine hK.out _ _ ?_ (fun hNew => ?_)
          · exact hc1
          clear hK K hHeld
          have hHeld := hNew
          clear hNew
          try simp only [Act.put, List.setIfInBounds_toArray, List.set_cons_zero, List.set_cons_succ]
          refine wpAnyH_ready (rs := [13]) (by kernel_rfl) (by simp) ?_
          refine AllReadyH.cons (i := 13) at13 (fun K hK => ?_) ?_
          · refine step_appR countR rfl (.tmp 89) (.tmp 93) 29 rfl w.heap.size 42 i0 (.agg #[.string ⟨#[]⟩, .int .i64 0]) 2 24 Tryd.underlying29 hi hz0 hz1 hz2 rfl rfl (by simp [Act.eval]) hown1 (by simp [Act.eval]) h54 (by simp only [hl1, hl2, List.length_cons, List.length_nil]; unfold maxLen; omega) (by simp only [hl1, hl2, List.length_cons, List.length_nil]; omega) hB1.size ?_
            intro v2 w2 hown2 hgrow2 hsm2
            have hB2 := hB1.grown hgrow2 hB1.size (fun j hj => (hown1.lt j hj).1)
            have hc2 := (hB2.cell (p := ⟨b, 0, none⟩) hbl).trans c0
            refine hK.out _ _ ?_ (fun hNew => ?_)
            · exact hc2
            clear hK K hHeld
            have hHeld := hNew
            clear hNew
            try simp only [Act.put, List.setIfInBounds_toArray, List.set_cons_zero, List.set_cons_succ]
            refine wpAnyH_ready (rs := [20]) (by kernel_rfl) (by simp) ?_
            refine AllReadyH.cons (i := 20) at20 (fun K hK => ?_) ?_
            · refine step_appR countR rfl (.tmp 94) (.tmp 100) 29 rfl w.heap.size 42 i0 (.agg #[.string ⟨#[]⟩, .int .i64 0]) 2 24 Tryd.underlying29 hi hz0 hz1 hz2 rfl rfl (by simp [Act.eval]) hown2 (by simp [Act.eval]) (hS2.below hB2) (by simp only [hl1, hl2, List.length_cons, List.length_nil]; unfold maxLen; omega) (by simp only [hl1, hl2, List.length_cons, List.length_nil]; omega) hB2.size ?_
              intro v3 w3 hown3 hgrow3 hsm3
              have hB3 := hB2.grown hgrow3 hB2.size (fun j hj => (hown2.lt j hj).1)
              have hc3 := (hB3.cell (p := ⟨b, 0, none⟩) hbl).trans c0
              have hfz3 := (rbox ((hB3.block b hbl).trans hbox)).2
              refine hK.out _ _ ?_ (fun hNew => ?_)
              · exact hc3
              clear hK K hHeld
              have hHeld := hNew
              clear hNew
              try simp only [Act.put, List.setIfInBounds_toArray, List.set_cons_zero, List.set_cons_succ]
              refine tail_list (is := [21, 22, 23]) (l := _) (by kernel_rfl) (by kernel_rfl) (by kernel_rfl) rfl ?_
              simp only [List.filterMap_cons, List.filterMap_nil, at21, at22, at23]
              show wpList _ _ _ (_ :: _) _ _
              have hown4 : w3.ownsRow w.heap.size 42 2 v3 (addC s n L).length (countR.flat (addC s n L)) := by
                have h := hown3
                rw [hL2.out]
                have e1 : (L.take 0 ++ [(⟨s, n⟩ : Ct)] ++ L.drop 0).length = 0 + (L.take 0).length + [(⟨s, n⟩ : Ct)].length + (L.drop 0).length := by simp; omega
                rw [e1]
                simp only [Rec.flat_app, List.append_assoc] at h ⊢
                exact h
              have hne3 : v3 ≠ .slice none 0 0 := fun h => by have := hsm1 (hsm2 (hsm3 h)); cases this
              obtain ⟨gg, cc, rfl, hgg, -⟩ := own_some hown4 hne3
              have hR4 := hidden hown4
              have hB4 := hidden hB3
              have hbox3 := hidden ((hB3.block b hbl).trans hbox)
              clear hown1 hown2 hown3 hown4 hgrow1 hgrow2 hgrow3 hB1 hB2 hB3 hS1 hS2 hne3 hc1 hc2 hc3
              go_wp2
              all_goals
                go_ret
                refine ⟨some ⟨gg, 0, none⟩, cc, rfl, ⟨?_, ?_, hlow⟩, ?_, fun g2 hg2 => ?_⟩
                · have := set_cell0 hbox3.out (.slice (some ⟨gg, 0, none⟩) (addC s n L).length cc)
                  simpa using this
                · exact own_leT (own_set0 hR4.out hbox3.out) hBw
                · exact ((SaveL.of_below hB4.out).trans (SaveL.setCell ⟨b, 0, none⟩ _ (by simp)))
                · cases hg2; exact .inr hgg
            exact AllReadyH.nil
          exact AllReadyH.nil
        exact AllReadyH.nil
      exact AllReadyH.nil
    exact AllReadyH.nil
set_option maxHeartbeats 6400000 in
set_option maxRecDepth 100000 in
theorem raddZeroN_c {B : Nat} {b : Nat} {c : Nat} {m : Int} {L : List Ct} (s : ByteArray) (n : Int) (w : World) (hbox : w.heap[b]? = some (.cells #[.slice none L.length c, .int .i64 m] 31)) (hrow : w.ownsRow B 42 2 (.slice none L.length c) L.length (countR.flat L)) (hlow : b < B) (hBw : B ≤ w.heap.size) (hF : Fine m L) (hm2 : m ≤ 1000000000000) (hs : s.size ≤ 40) (hns : nameS s) (hn0 : ¬ n < 0) (hnm : ¬ m - sumC L < n) (hl : L.length ≤ 100000) (hn1 : n = 0) (hL0 : L = []) (hc0 : c = 0) :
    Calls Tryd.prog 9 #[.pointer (some ⟨b, 0, none⟩), .string s, .int .i64 n] w fun e w' => e = .returned (.int .i64 0) ∧ Hid (Below w.heap.size w w') := by
  have hnc := rname_c s w (by omega)
  rw [show decide (nameS s) = true by simpa using hns] at hnc
  have hall := rall_c w.drew ((⟨hbox, hrow, hlow⟩ : RMt B w b none c m L).below (Below.refl _ _).drew) hF hm2 (by omega)
  obtain ⟨⟨c0, c1⟩, f0⟩ := rbox hbox
  have hbl := (Array.getElem?_eq_some_iff.1 hbox).1
  have hS0 := hF.nonneg
  have hS1 := hF.small
  have hw : IntKind.i64.wrap (m - sumC L) = m - sumC L := by rw [IntKind.wrap_i64]; omega
  obtain ⟨i0, hi, hz0, hz1, hz2⟩ := info_parts infoC
  have hLl : L.length = 0 := by rw [hL0]; rfl
  rw [hLl, hc0] at c0
  subst hc0
  subst hn1
  replace hL0 := hidden hL0
  replace hLl := hidden hLl
  clear hrow
  go_enter Tryd.func9, Tryd.ntmps9
  go_wp2_with fail
  refine hnc.mono ?_
  rintro e w' ⟨rfl, rfl⟩
  rename World => w
  go_wp2_with fail
  go_region_held3 (fun z => z.cell? ⟨b, 1, none⟩ = some (.int .i64 m)) (first | assumption | go_keep) (first
    | (go_at_call 11; refine hall.mono ?_; rintro e w1 ⟨rfl, rfl⟩)
    | fail)
  clear hnc hall
  go_wp2
  go_loop [7] (fun u => u = .int .i64 0) (fun _ => 0)
  case atStart => rfl
  case round =>
    subst hrel
    clear hw
    go_wp2
    go_ret
    exact ⟨rfl, (Below.refl _ _).drew⟩
set_option maxHeartbeats 6400000 in
set_option maxRecDepth 100000 in
theorem raddZero_c {B : Nat} {b g : Nat} {c : Nat} {m : Int} {L : List Ct} (s : ByteArray) (n : Int) (w : World) (hbox : w.heap[b]? = some (.cells #[.slice (some ⟨g, 0, none⟩) L.length c, .int .i64 m] 31)) (hrow : w.ownsRow B 42 2 (.slice (some ⟨g, 0, none⟩) L.length c) L.length (countR.flat L)) (hlow : b < B) (hBw : B ≤ w.heap.size) (hF : Fine m L) (hm2 : m ≤ 1000000000000) (hs : s.size ≤ 40) (hns : nameS s) (hn0 : ¬ n < 0) (hnm : ¬ m - sumC L < n) (hl : L.length ≤ 100000) (hn1 : n = 0) (p : Nat) (hp : p ≤ L.length) (hplow : ∀ i, i < p → blT (L.getD i Ct.none).s s = true) (hpup : p < L.length → blT (L.getD p Ct.none).s s = false ∧ (L.getD p Ct.none).s ≠ s) :
    Calls Tryd.prog 9 #[.pointer (some ⟨b, 0, none⟩), .string s, .int .i64 n] w fun e w' => ∃ (a' : Option Addr) (c' : Nat), e = .returned (.int .i64 0) ∧ RMt B w' b a' c' m (L) ∧ SaveL (b :: rowb (some ⟨g, 0, none⟩)) w w' ∧ (∀ g2, (Value.slice a' (L).length c').ownBlock = some g2 → (Value.slice (some ⟨g, 0, none⟩) L.length c).ownBlock = some g2 ∨ w.heap.size ≤ g2) := by
  have hnc := rname_c s w (by omega)
  rw [show decide (nameS s) = true by simpa using hns] at hnc
  have hall := rall_c w.drew ((⟨hbox, hrow, hlow⟩ : RMt B w b (some ⟨g, 0, none⟩) c m L).below (Below.refl _ _).drew) hF hm2 (by omega)
  obtain ⟨⟨c0, c1⟩, f0⟩ := rbox hbox
  have hbl := (Array.getElem?_eq_some_iff.1 hbox).1
  have hS0 := hF.nonneg
  have hS1 := hF.small
  have hw : IntKind.i64.wrap (m - sumC L) = m - sumC L := by rw [IntKind.wrap_i64]; omega
  obtain ⟨i0, hi, hz0, hz1, hz2⟩ := info_parts infoC
  obtain ⟨N, hN⟩ : ∃ N, N = L.length := ⟨_, rfl⟩
  rw [← hN] at c0 hl
  replace hN := hidden hN
  have hat := hidden (⟨hbox, hrow, hlow⟩ : RMt B w b (some ⟨g, 0, none⟩) c m L).at
  replace hplow := hidden hplow
  replace hbox := hidden hbox
  replace hrow := hidden hrow
  replace hF := hidden hF
  have hpN : p ≤ N := by rw [hN.out]; exact hp
  replace hpup := hidden hpup
  have hfin : Hid (RMt B w b (some ⟨g, 0, none⟩) c m L) := ⟨hbox.out, hrow.out, hlow⟩
  subst hn1
  go_enter Tryd.func9, Tryd.ntmps9
  go_wp2_with fail
  refine hnc.mono ?_
  rintro e w' ⟨rfl, rfl⟩
  rename World => w
  go_wp2_with fail
  go_region_held3 (fun z => z.cell? ⟨b, 1, none⟩ = some (.int .i64 m)) (first | assumption | go_keep) (first
    | (go_at_call 11; refine hall.mono ?_; rintro e w1 ⟨rfl, rfl⟩)
    | fail)
  clear hnc hall
  go_wp2
  go_loop [7] (fun u => ∃ j : Nat, j ≤ p ∧ u = .int .i64 (j : Int)) (fun u => p - (intOf u).toNat)
  case atStart => exact ⟨0, Nat.zero_le _, rfl⟩
  case round =>
    obtain ⟨j, hj, rfl⟩ := hrel
    by_cases hlt : j < p
    · have hlt' : (j : Int) < (N : Int) := by omega
      obtain ⟨g', off, he, hg', d0, -⟩ := count_at hat.out (k := j) (by have := hN.out; omega)
      cases he
      rw [Nat.zero_add] at d0
      have hb : Op.bytesLess (L.getD j Ct.none).s.toList s.toList = true := hplow.out j hlt
      generalize (L.getD j Ct.none).s = y at *
      go_wp2
      go_round
      case rel => exact ⟨j + 1, by omega, by go_num⟩
      case measure => simp [intOf]; omega
    · obtain rfl : j = p := by omega
      clear hlt
      have hend : Hid (∃ (a' : Option Addr) (c' : Nat), RMt B w.drew b a' c' m L ∧ SaveL (b :: rowb (some ⟨g, 0, none⟩)) w w.drew ∧ (∀ g2, (Value.slice a' L.length c').ownBlock = some g2 → (Value.slice (some ⟨g, 0, none⟩) L.length c).ownBlock = some g2 ∨ w.heap.size ≤ g2)) := ⟨some ⟨g, 0, none⟩, c, hfin.out.below (Below.refl _ _).drew, SaveL.of_below (Below.refl _ _).drew, fun g2 hg2 => .inl hg2⟩
      by_cases hjn : j < N
      · have hlt' : (j : Int) < (N : Int) := by omega
        obtain ⟨hu1, hu2⟩ := hpup.out (by rw [← hN.out]; exact hjn)
        obtain ⟨g', off, he, hg', d0, -⟩ := count_at hat.out (k := j) (by rw [← hN.out]; exact hjn)
        cases he
        rw [Nat.zero_add] at d0
        have hb : Op.bytesLess (L.getD j Ct.none).s.toList s.toList = false := hu1
        have hs1 : ((L.getD j Ct.none).s.toList == s.toList) = false := by
          have : ¬ (L.getD j Ct.none).s.toList = s.toList := fun h => hu2 (txt_inj h)
          simpa using this
        generalize (L.getD j Ct.none).s = y at *
        clear hw hplow hat hu1 hu2 hpup
        go_wp2
        go_ret
        exact ⟨rfl, hend.out⟩
      · have hlt' : ¬ (j : Int) < (N : Int) := by omega
        clear hw hplow hat hpup
        go_wp2
        go_ret
        exact ⟨rfl, hend.out⟩
/-- The reference's Add, whatever it is given. -/
theorem radd_c {B : Nat} {b : Nat} {a : Option Addr} {c : Nat} {m : Int} {L : List Ct} (s : ByteArray) (n : Int) (w : World) (h : RMt B w b a c m L) (hnil : L = [] → a = none ∧ c = 0) (hBw : B ≤ w.heap.size) (hF : Fine m L) (hm : 0 ≤ m) (hm2 : m ≤ 1000000000000) (hs : s.size ≤ 40) (hl : L.length ≤ 100000) :
    Calls Tryd.prog 9 #[.pointer (some ⟨b, 0, none⟩), .string s, .int .i64 n] w fun e w' => ∃ (a' : Option Addr) (c' : Nat), e = .returned (.int .i64 (addAns m L s n)) ∧ RMt B w' b a' c' m (addTo m L s n) ∧ (addTo m L s n = [] → a' = none ∧ c' = 0) ∧ SaveL (b :: rowb a) w w' ∧ (∀ g2, (Value.slice a' (addTo m L s n).length c').ownBlock = some g2 → (Value.slice a L.length c).ownBlock = some g2 ∨ w.heap.size ≤ g2) := by
  by_cases hok : nameS s ∧ ¬ n < 0 ∧ ¬ m - sumC L < n
  case neg =>
    have hto : addTo m L s n = L := by
      unfold addTo
      rw [if_neg (fun h => hok ⟨h.1, by omega, by omega⟩)]
    rw [hto]
    exact (raddNo_c s n w h hF hm hm2 hs hl hok).mono fun e w' ⟨he, hB⟩ => ⟨a, c, he, h.below hB.out, hnil, SaveL.of_below hB.out, fun g2 hg2 => .inl hg2⟩
  case pos =>
    obtain ⟨hns, hn0, hnm⟩ := hok
    have hans : addAns m L s n = 0 := by unfold addAns; simp [hns, hn0, hnm]
    rw [hans]
    have hne : ∀ k, addC s k L ≠ [] := fun k h => by
      have := (names_add s k L s).2 (.inl rfl)
      rw [h] at this
      cases this
    by_cases hL : L = []
    · obtain ⟨rfl, hc0⟩ := hnil hL
      by_cases hn1 : 0 < n
      · have hto : addTo m L s n = addC s n L := by unfold addTo; rw [if_pos ⟨hns, hn1, by omega⟩]
        rw [hto]
        exact (raddNil_c s n w h.box h.row h.low hBw hF hm2 hs hns hn0 hnm hl hn1 hL hc0).mono fun e w' ⟨a', c', he, h1, h2, h3⟩ => ⟨a', c', he, h1, fun e => absurd e (hne n), h2, h3⟩
      · have hto : addTo m L s n = L := by unfold addTo; rw [if_neg (fun h => hn1 h.2.1)]
        rw [hto]
        exact (raddZeroN_c s n w h.box h.row h.low hBw hF hm2 hs hns hn0 hnm hl (by omega) hL hc0).mono fun e w' ⟨he, hB⟩ => ⟨none, c, he, h.below hB.out, fun _ => ⟨rfl, hc0⟩, SaveL.of_below hB.out, fun g2 hg2 => .inl hg2⟩
    · have hsome : ∃ g, a = some ⟨g, 0, none⟩ := by
        rcases h.row.2 with ⟨h4, _⟩ | ⟨g, cap, cur, e1, _⟩
        · have : L.length = 0 := by simp only [Value.slice.injEq] at h4; exact h4.2.1
          exact absurd (List.eq_nil_of_length_eq_zero this) hL
        · simp only [Value.slice.injEq] at e1
          exact ⟨g, e1.1⟩
      obtain ⟨g, rfl⟩ := hsome
      obtain ⟨p, hp, hplow, hpup⟩ := ex_pos s L
      by_cases hsame : p < L.length ∧ (L.getD p Ct.none).s = s
      · have hto : addTo m L s n = addC s n L ∨ (n = 0 ∧ addTo m L s n = L ∧ addC s n L = L) := by
          by_cases hn1 : 0 < n
          · exact .inl (by unfold addTo; rw [if_pos ⟨hns, hn1, by omega⟩])
          · obtain rfl : n = 0 := by omega
            refine .inr ⟨rfl, by unfold addTo; rw [if_neg (fun h => hn1 h.2.1)], ?_⟩
            rw [addC_same s 0 L p hsame.1 hplow hsame.2, Int.add_zero]
            refine List.ext_getElem (by simp) fun i h1 h2 => ?_
            rw [List.getElem_set]
            split
            · rename_i hpi
              subst hpi
              have : L.getD p Ct.none = L[p] := by simp [List.getD, h2]
              rw [← hsame.2, this]
            · rfl
        have hfin := raddIn_c s n w h.box h.row h.low hBw hF hm2 hs hns hn0 hnm hl p hsame.1 hplow hsame.2
        rcases hto with hto | ⟨_, hto, hto2⟩
        · rw [hto]
          exact hfin.mono fun e w' ⟨a', c', he, h1, h2, h3⟩ => ⟨a', c', he, h1, fun e => absurd e (hne n), h2, h3⟩
        · rw [hto]
          rw [hto2] at hfin
          exact hfin.mono fun e w' ⟨a', c', he, h1, h2, h3⟩ => ⟨a', c', he, h1, fun e => absurd e hL, h2, h3⟩
      · have hup : p < L.length → blT (L.getD p Ct.none).s s = false ∧ (L.getD p Ct.none).s ≠ s := fun h => ⟨hpup h, fun e => hsame ⟨h, e⟩⟩
        by_cases hn1 : 0 < n
        · have hto : addTo m L s n = addC s n L := by unfold addTo; rw [if_pos ⟨hns, hn1, by omega⟩]
          rw [hto]
          exact (raddNew_c s n w h.box h.row h.low hBw hF hm2 hs hns hn0 hnm hl hn1 p hp hplow hup).mono fun e w' ⟨a', c', he, h1, h2, h3⟩ => ⟨a', c', he, h1, fun e => absurd e (hne n), h2, h3⟩
        · have hto : addTo m L s n = L := by unfold addTo; rw [if_neg (fun h => hn1 h.2.1)]
          rw [hto]
          exact (raddZero_c s n w h.box h.row h.low hBw hF hm2 hs hns hn0 hnm hl (by omega) p hp hplow hup).mono fun e w' ⟨a', c', he, h1, h2, h3⟩ => ⟨a', c', he, h1, fun e => absurd e hL, h2, h3⟩
end Go.Proofs.YtoijkbnjcnedjaaDoor
