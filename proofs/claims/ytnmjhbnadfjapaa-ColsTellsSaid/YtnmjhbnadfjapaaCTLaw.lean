/-
  THE LAW ColsTells, with lives() as a premise.
-/
import Derived.Test.YtnmjhbnadfjapaaCLaws
import Derived.Test.YtnmjhbnadfjapaaColNew
namespace Go.Proofs.Ytnmjhbnadfjapaa
open Go.ChangeShapes Go.WideShapes Go.ChangeAt Go.RowKit Go.Maps

set_option maxHeartbeats 32000000 in
set_option maxRecDepth 100000 in
theorem lawCT_c (H : Gr) (nv ev : Value) (q0 : Int) (p1 p2 : ByteArray) (q3 vk vn : Int) (v0 : ByteArray) (w : World) (hG : HoldsG w nv ev H) (hw : H.wf) (hlv : ∀ x, GoX.Calm w x → Calls Try.prog 12 #[] x fun e w' => e = .returned (.bool true) ∧ GoX.Calm x w') :
    Calls Try.prog 3 #[.agg #[nv, ev], .agg #[.int .i64 q0, .string p1, .string p2, .int .i64 q3, .int .i64 vk, .int .i64 vn, .string v0]] w fun e w' => e = .returned (.bool true) ∧ GoX.Calm w w' := by
  obtain ⟨w1', w2', w3', w4'⟩ := hw
  unfold maxLen at w1' w3'
  obtain ⟨ga, gc, rfl⟩ := hG.1.slice
  obtain ⟨ha, hc, rfl, -⟩ := id hG.2
  obtain ⟨wb, hwb⟩ : ∃ wb, wb = (w.alloc (.cells #[.slice ga H.ns.length gc, .slice ha H.es.length hc] 25)).alloc (.cells #[.int .i64 q0, .string p1, .string p2, .int .i64 q3, .int .i64 vk, .int .i64 vn, .string v0] 29) := ⟨_, rfl⟩
  have hz1 : (w.alloc (.cells #[.slice ga H.ns.length gc, .slice ha H.es.length hc] 25)).heap.size = w.heap.size + 1 := by simp
  have hB0 : Hid (Below w.heap.size w wb) := by rw [hwb]; exact ((Below.refl _ _).alloc (Nat.le_refl _) _).alloc (by rw [hz1]; omega) _
  have hX0 : Hid (wb.heap[w.heap.size]? = some (.cells #[.slice ga H.ns.length gc, .slice ha H.es.length hc] 25)) := by
    rw [hwb]
    exact (heap_alloc_old _ _ (by rw [hz1]; omega)).trans (heap_alloc_new w _)
  have hX1 : Hid (wb.heap[w.heap.size + 1]? = some (.cells #[.int .i64 q0, .string p1, .string p2, .int .i64 q3, .int .i64 vk, .int .i64 vn, .string v0] 29)) := by
    rw [hwb]
    have h := heap_alloc_new (w.alloc (.cells #[.slice ga H.ns.length gc, .slice ha H.es.length hc] 25)) (.cells #[.int .i64 q0, .string p1, .string p2, .int .i64 q3, .int .i64 vk, .int .i64 vn, .string v0] 29)
    rw [hz1] at h
    exact h
  have hf0 := hidden (gfew_c H _ _ wb.drew (hG.below (hB0.out.drew)) (by omega) (by omega) (fun x hx => by have := (w2' x hx).1; unfold maxLen at this; omega))
  have hff := hidden (Gr.few_few H)
  have hsm := hidden (Gr.few_sm H)
  have hvf := hidden fun z => vfew_c vk vn v0 z
  have hcl := hidden fun z => cut_c p1 35 z (by decide)
  have hcn := hidden fun z => cut_c p2 35 z (by decide)
  have hs1 : Hid ((cutB p1 35).size ≤ maxLen) := hidden (Nat.le_trans (cutB_size p1 35) (by decide))
  have hs2 : Hid ((cutB p2 35).size ≤ maxLen) := hidden (Nat.le_trans (cutB_size p2 35) (by decide))
  generalize cutB p1 35 = q1 at *
  generalize cutB p2 35 = q2 at *
  generalize cutB v0 120 = vt at *
  generalize H.few = g at *
  generalize H.ns.length = NL at *
  generalize H.es.length = EL at *
  replace hlv := hidden hlv
  clear hG w1' w2' w3' w4' hz1
  have hSo : Hid (∀ z, Below wb.heap.size wb z → z.cell? ⟨w.heap.size, 0, none⟩ = some (.slice ga NL gc) ∧ z.cell? ⟨w.heap.size, 1, none⟩ = some (.slice ha EL hc) ∧ z.cell? ⟨w.heap.size + 1, 0, none⟩ = some (.int .i64 q0) ∧ z.cell? ⟨w.heap.size + 1, 1, none⟩ = some (.string p1) ∧ z.cell? ⟨w.heap.size + 1, 2, none⟩ = some (.string p2) ∧ z.cell? ⟨w.heap.size + 1, 3, none⟩ = some (.int .i64 q3) ∧ z.cell? ⟨w.heap.size + 1, 4, none⟩ = some (.int .i64 vk) ∧ z.cell? ⟨w.heap.size + 1, 5, none⟩ = some (.int .i64 vn) ∧ z.cell? ⟨w.heap.size + 1, 6, none⟩ = some (.string v0)) := hidden fun z h => by
    obtain ⟨⟨p0, p1⟩, -⟩ := box2f (box_below hX0.out h)
    exact ⟨p0, p1, box7u (box_below hX1.out h)⟩
  have hS0 := hSo.out wb.drew (Below.refl _ _).drew
  go_enter Try.func3, Try.ntmps3
  go_wp2_with fail
  rw [← hwb]
  replace hwb := hidden hwb
  go_wp2_with fail
  refine wp_region_parts (S := (fun z => z.cell? ⟨w.heap.size, 0, none⟩ = some (.slice ga NL gc) ∧ z.cell? ⟨w.heap.size, 1, none⟩ = some (.slice ha EL hc) ∧ z.cell? ⟨w.heap.size + 1, 0, none⟩ = some (.int .i64 q0) ∧ z.cell? ⟨w.heap.size + 1, 1, none⟩ = some (.string p1) ∧ z.cell? ⟨w.heap.size + 1, 2, none⟩ = some (.string p2) ∧ z.cell? ⟨w.heap.size + 1, 3, none⟩ = some (.int .i64 q3) ∧ z.cell? ⟨w.heap.size + 1, 4, none⟩ = some (.int .i64 vk) ∧ z.cell? ⟨w.heap.size + 1, 5, none⟩ = some (.int .i64 vn) ∧ z.cell? ⟨w.heap.size + 1, 6, none⟩ = some (.string v0))) #[false, false, false, false, false, false, false, false, false, false, false, true, true, true, true, true, true, true] #[true, true, true, true, true, true, true, true, true, true, true, false, false, false, false, false, false, false] [11, 12, 13, 14, 15, 16, 17] 40 11 (by kernel_rfl) (by kernel_rfl) (by kernel_rfl) (by rfl) ?_ (fun hHeld => ?_)
  · exact hS0
  first
    | (refine wpAnyH_take (i := 0) (v := ?_) at0 (by kernel_rfl) (by kernel_rfl) (by kernel_rfl) (fun _ _ _ h => h) (Or.inl ⟨by rfl, ?_⟩) (by assumption) ?_
       rotate_left
       · intro w hSw; (try dsimp only at hSw); go_simp; try with_reducible rfl)
    | fail "take 0"
  try simp only [Act.put, List.setIfInBounds_toArray, List.set_cons_zero, List.set_cons_succ]
  first
    | (refine wpAnyH_take (i := 2) (v := ?_) at2 (by kernel_rfl) (by kernel_rfl) (by kernel_rfl) (fun _ _ _ h => h) (Or.inl ⟨by rfl, ?_⟩) (by assumption) ?_
       rotate_left
       · intro w hSw; (try dsimp only at hSw); go_simp; try with_reducible rfl)
    | fail "take 2"
  try simp only [Act.put, List.setIfInBounds_toArray, List.set_cons_zero, List.set_cons_succ]
  first
    | (refine wpAnyH_take (i := 3) (v := ?_) at3 (by kernel_rfl) (by kernel_rfl) (by kernel_rfl) (fun _ _ _ h => h) (Or.inl ⟨by rfl, ?_⟩) (by assumption) ?_
       rotate_left
       · intro w hSw; (try dsimp only at hSw); go_simp; try with_reducible rfl)
    | fail "take 3"
  try simp only [Act.put, List.setIfInBounds_toArray, List.set_cons_zero, List.set_cons_succ]
  first
    | (refine wpAnyH_take (i := 5) (v := ?_) at5 (by kernel_rfl) (by kernel_rfl) (by kernel_rfl) (fun _ _ _ h => h) (Or.inl ⟨by rfl, ?_⟩) (by assumption) ?_
       rotate_left
       · intro w hSw; (try dsimp only at hSw); go_simp; try with_reducible rfl)
    | fail "take 5"
  try simp only [Act.put, List.setIfInBounds_toArray, List.set_cons_zero, List.set_cons_succ]
  first
    | (refine wpAnyH_take (i := 6) (v := ?_) at6 (by kernel_rfl) (by kernel_rfl) (by kernel_rfl) (fun _ _ _ h => h) (Or.inl ⟨by rfl, ?_⟩) (by assumption) ?_
       rotate_left
       · intro w hSw; (try dsimp only at hSw); go_simp; try with_reducible rfl)
    | fail "take 6"
  try simp only [Act.put, List.setIfInBounds_toArray, List.set_cons_zero, List.set_cons_succ]
  first
    | (refine wpAnyH_take (i := 8) (v := ?_) at8 (by kernel_rfl) (by kernel_rfl) (by kernel_rfl) (fun _ _ _ h => h) (Or.inl ⟨by rfl, ?_⟩) (by assumption) ?_
       rotate_left
       · intro w hSw; (try dsimp only at hSw); go_simp; try with_reducible rfl)
    | fail "take 8"
  try simp only [Act.put, List.setIfInBounds_toArray, List.set_cons_zero, List.set_cons_succ]
  first
    | (refine wpAnyH_take (i := 9) (v := ?_) at9 (by kernel_rfl) (by kernel_rfl) (by kernel_rfl) (fun _ _ _ h => h) (Or.inl ⟨by rfl, ?_⟩) (by assumption) ?_
       rotate_left
       · intro w hSw; (try dsimp only at hSw); go_simp; try with_reducible rfl)
    | fail "take 9"
  try simp only [Act.put, List.setIfInBounds_toArray, List.set_cons_zero, List.set_cons_succ]
  refine wpAnyH_ready (rs := [1]) (by kernel_rfl) (by simp) ?_
  refine AllReadyH.cons (i := 1) at1 (fun K hK => ?_) ?_
  · go_simp
    refine (hf0.out).mono ?_
    rintro e u1 ⟨vs, a, n, c, b, m, d, rfl, hN, hE, hBz⟩
    have kA := hidden ((Below.refl wb.heap.size wb).drew.trans hBz)
    have hSn := hSo.out u1 kA.out
    have hO1 : Hid (OwnG g vs a n c b m d u1) := hidden ⟨hN, hE⟩
    clear hN hE hBz
    refine hK.out _ _ ?_ (fun hNew => ?_)
    · exact hSn
    clear hK K hHeld
    have hHeld := hNew
    clear hNew
    try simp only [List.setIfInBounds_toArray, List.set_cons_zero, List.set_cons_succ]
    refine wpAnyH_ready (rs := [4]) (by kernel_rfl) (by simp) ?_
    refine AllReadyH.cons (i := 4) at4 (fun K hK => ?_) ?_
    · go_simp
      refine (hcl.out _).mono ?_
      rintro e u4 ⟨rfl, rfl⟩
      have hSn := hSo.out u4 kA.out
      refine hK.out _ _ ?_ (fun hNew => ?_)
      · exact hSn
      clear hK K hHeld
      have hHeld := hNew
      clear hNew
      try simp only [List.setIfInBounds_toArray, List.set_cons_zero, List.set_cons_succ]
      refine wpAnyH_ready (rs := [7]) (by kernel_rfl) (by simp) ?_
      refine AllReadyH.cons (i := 7) at7 (fun K hK => ?_) ?_
      · go_simp
        refine (hcn.out _).mono ?_
        rintro e u7 ⟨rfl, rfl⟩
        have hSn := hSo.out u7 kA.out
        refine hK.out _ _ ?_ (fun hNew => ?_)
        · exact hSn
        clear hK K hHeld
        have hHeld := hNew
        clear hNew
        try simp only [List.setIfInBounds_toArray, List.set_cons_zero, List.set_cons_succ]
        refine wpAnyH_ready (rs := [10]) (by kernel_rfl) (by simp) ?_
        refine AllReadyH.cons (i := 10) at10 (fun K hK => ?_) ?_
        · go_simp
          refine (hvf.out _).mono ?_
          rintro e u3 ⟨rfl, hBz⟩
          have kB := hidden (kA.out.trans (hBz.mono kA.out.size))
          have hSn := hSo.out u3 kB.out
          have hO3 := hidden (hO1.out.below hBz)
          refine hK.out _ _ ?_ (fun hNew => ?_)
          · exact hSn
          clear hK K hHeld
          have hHeld := hNew
          clear hNew
          try simp only [List.setIfInBounds_toArray, List.set_cons_zero, List.set_cons_succ]
          refine tail_list (is := [11, 12, 13, 14, 15, 16, 17]) (l := _) (by kernel_rfl) (by kernel_rfl) (by kernel_rfl) rfl ?_
          simp only [List.filterMap_cons, List.filterMap_nil, at11, at12, at13, at14, at15, at16, at17]
          show wpList _ _ _ (_ :: _) _ _
          have hg5 := box_below hX0.out kB.out
          have ha5 := box_below hX1.out kB.out
          obtain ⟨fg0, fg1⟩ := frz2 hg5
          obtain ⟨fq0, fq1, fq2, fq3, fq4, fq5, fq6⟩ := frz7 ha5
          have hO6 := (hO3.out.set hg5 0 (.slice a n c)).set (set_heap hg5 0 (.slice a n c)) 1 (.slice b m d)
          have hg6 := set_heap (set_heap hg5 0 (.slice a n c)) 1 (.slice b m d)
          have ha6 := set_oth (set_oth ha5 (show w.heap.size ≠ w.heap.size + 1 by omega) 0 (.slice a n c)) (show w.heap.size ≠ w.heap.size + 1 by omega) 1 (.slice b m d)
          have hx0 := set_heap ha6 1 (.string q1)
          have ho0 := ownA_set hO6 ha6 1 (.string q1)
          have hg70 := set_oth hg6 (show w.heap.size + 1 ≠ w.heap.size by omega) 1 (.string q1)
          have hx1 := set_heap hx0 2 (.string q2)
          have ho1 := ownA_set ho0 hx0 2 (.string q2)
          have hg71 := set_oth hg70 (show w.heap.size + 1 ≠ w.heap.size by omega) 2 (.string q2)
          have hx2 := set_heap hx1 4 (.int .i64 vk)
          have ho2 := ownA_set ho1 hx1 4 (.int .i64 vk)
          have hg72 := set_oth hg71 (show w.heap.size + 1 ≠ w.heap.size by omega) 4 (.int .i64 vk)
          have hx3 := set_heap hx2 5 (.int .i64 vn)
          have ho3 := ownA_set ho2 hx2 5 (.int .i64 vn)
          have hg73 := set_oth hg72 (show w.heap.size + 1 ≠ w.heap.size by omega) 5 (.int .i64 vn)
          have hx4 := set_heap hx3 6 (.string vt)
          have ho4 := ownA_set ho3 hx3 6 (.string vt)
          have hg74 := set_oth hg73 (show w.heap.size + 1 ≠ w.heap.size by omega) 6 (.string vt)
          have hO7 := hidden ho4
          have hXg := hidden hg74
          have hXq := hidden hx4
          have hC6 := ((hB0.out.trans (kB.out.mono hB0.out.size)).setCell (p := ⟨w.heap.size, 0, none⟩) (Nat.le_refl _) (.slice a n c)).setCell (p := ⟨w.heap.size, 1, none⟩) (Nat.le_refl _) (.slice b m d)
          have hC2 := hidden (((((hC6.setCell (p := ⟨w.heap.size + 1, 1, none⟩) (Nat.le_succ _) (.string q1)).setCell (p := ⟨w.heap.size + 1, 2, none⟩) (Nat.le_succ _) (.string q2)).setCell (p := ⟨w.heap.size + 1, 4, none⟩) (Nat.le_succ _) (.int .i64 vk)).setCell (p := ⟨w.heap.size + 1, 5, none⟩) (Nat.le_succ _) (.int .i64 vn)).setCell (p := ⟨w.heap.size + 1, 6, none⟩) (Nat.le_succ _) (.string vt))
          clear hO6 hg6 ha6 hC6 hg5 ha5 hx0 ho0 hg70 hx1 ho1 hg71 hx2 ho2 hg72 hx3 ho3 hg73 hx4 ho4 hg74
          go_wp2_with fail
          skip
          clear fg0 fg1 fq0 fq1 fq2 fq3 fq4 fq5 fq6 hSn hSo hHeld hf0 hvf hcl hcn hX0 hX1 kA kB hO1 hO3 hB0
          generalize hwy : ((((((u3.setCell ⟨w.heap.size, 0, none⟩ (.slice a n c)).setCell ⟨w.heap.size, 1, none⟩ (.slice b m d)).setCell ⟨w.heap.size + 1, 1, none⟩ (.string q1)).setCell ⟨w.heap.size + 1, 2, none⟩ (.string q2)).setCell ⟨w.heap.size + 1, 4, none⟩ (.int .i64 vk)).setCell ⟨w.heap.size + 1, 5, none⟩ (.int .i64 vn)).setCell ⟨w.heap.size + 1, 6, none⟩ (.string vt) = y at *
          clear hwy
          simp only [List.setIfInBounds_toArray, List.set_cons_zero, List.set_cons_succ] at hXg hXq
          clear hS0 hwb
          obtain ⟨hgn, -⟩ := hO7.out.len
          have hN0 : g.ns.length ≤ 1000 := hsm.out.1
          have hn0 : n ≤ 1000 := by omega
          have hps : Hid (∀ i, (g.ns.getD i Nd.none).ps.length ≤ 1000) := hidden fun i => by
            by_cases hi : i < g.ns.length
            · exact (hsm.out.2.1 _ (getD_memG (d := Nd.none) hi)).2.1
            · simp [List.getD, List.getElem?_eq_none (Nat.le_of_not_lt hi), Nd.none]
          have hfew : Hid (∀ z, Below y.heap.size y z → Calls Try.prog 7 #[.agg #[.slice a n c, .slice b m d]] z fun e w' => ∃ (us : List NdV) (a' : Option Addr) (n' c' : Nat) (b' : Option Addr) (m' d' : Nat), e = .returned (.agg #[.slice a' n' c', .slice b' m' d']) ∧ OwnG g us a' n' c' b' m' d' w' ∧ Below z.heap.size z w') := hidden fun z h => few_b g vs a n c b m d z (hO7.out.below h) hff.out hsm.out
          have hgood : Hid (∀ z, Below y.heap.size y z → Calls Try.prog 26 #[.agg #[.slice a n c, .slice b m d]] z fun e w' => e = .returned (.bool ((checkG g).2 == 0)) ∧ Below z.heap.size z w') := hidden fun z h => rggood_c g vs a n c b m d z (hO7.out.below h) hsm.out
          obtain ⟨R, hR⟩ := tells_ex g.ns q2 g.ns.length
          have hRl : R.length ≤ 1000 := Nat.le_trans hR.2.1 hN0
          have hrv : Hid (∀ z, Below y.heap.size y z → Calls Try.prog 25 #[.agg #[.slice a n c, .slice b m d], .string q2] z fun e w' => ∃ a' c', e = .returned (.slice a' R.length c') ∧ RowAt w' a' (valR.flat R) ∧ Below z.heap.size z w') := hidden fun z h => rvals_c g vs a n c b m d q2 R hR z (hO7.out.below h) hsm.out
          have hrt : Hid (∀ z, Below y.heap.size y z → Calls Try.prog 21 #[.agg #[.slice a n c, .slice b m d], .string q2, .int .i64 1, .agg #[.int .i64 vk, .int .i64 vn, .string vt]] z fun e w' => ∃ v, e = .returned v ∧ HoldsR natR w' v (bothN g.ns [⟨q2, 1, vk, vn, vt⟩] g.ns.length) ∧ Below z.heap.size z w') := hidden fun z h => rtest8_c g vs a n c b m d ⟨q2, 1, vk, vn, vt⟩ z (hO7.out.below h) hsm.out
          have hrw : Hid (∀ z, Below y.heap.size y z → Calls Try.prog 19 #[.agg #[.slice a n c, .slice b m d], .string q1] z fun e w' => ∃ v, e = .returned v ∧ w'.ownsRow z.heap.size 3 1 v (labN g.ns g.ns.length q1).length (natR.flat (labN g.ns g.ns.length q1)) ∧ Below z.heap.size z w') := hidden fun z h => rwith_c g vs a n c b m d q1 z (hO7.out.below h) hsm.out
          have hcw : Hid (∀ C B z, ColAt g.ns C B z → Calls Try.prog 18 #[.pointer (some ⟨C.gb, 0, none⟩), .string q1] z fun e w' => ∃ a' c', e = .returned (.slice a' (labN g.ns g.ns.length q1).length c') ∧ w'.ownsRow z.heap.size 3 1 (.slice a' (labN g.ns g.ns.length q1).length c') (labN g.ns g.ns.length q1).length (natR.flat (labN g.ns g.ns.length q1)) ∧ Below z.heap.size z w') := hidden fun C B z hC => by
            have h := colwith_c g.ns C B q1 z hC hs1.out hN0
            rw [← labN_F, natI, List.length_map] at h
            exact h
          have hch : Hid ((checkG g).2 = 0 → ∀ C B z, ColAt g.ns C B z → Calls Try.prog 22 #[.pointer (some ⟨C.gb, 0, none⟩), .string q2, .agg #[.int .i64 vk, .int .i64 vn, .string vt]] z fun e w' => ∃ v, e = .returned v ∧ w'.ownsRow z.heap.size 3 1 v (bothN g.ns [⟨q2, 1, vk, vn, vt⟩] g.ns.length).length (natR.flat (bothN g.ns [⟨q2, 1, vk, vn, vt⟩] g.ns.length)) ∧ Below z.heap.size z w') := hidden fun hg C B z hC => by
            have h := having_c g.ns C B q2 vk vn vt z hC hs2.out hN0 hps.out
            have e := colT_is hg ⟨q2, 1, vk, vn, vt⟩
            simp only at e
            rw [e, natI, List.length_map] at h
            exact h
          have hcv : Hid ((checkG g).2 = 0 → ∀ C B z, ColAt g.ns C B z → Calls Try.prog 24 #[.pointer (some ⟨C.gb, 0, none⟩), .string q2] z fun e w' => ∃ a cap, e = .returned (.slice a R.length cap) ∧ (R = [] ∨ ∃ gb, a = some ⟨gb, 0, none⟩ ∧ RS w' gb R ∧ z.heap.size ≤ gb) ∧ Below z.heap.size z w') := hidden fun hg C B z hC => colvals_c g hg hsm.out C B q2 R hR z hC hs2.out
          have hlW := hidden (Nat.le_trans (labN_len g.ns g.ns.length q1) hN0)
          have hlT := hidden (Nat.le_trans (bothN_len g.ns [⟨q2, 1, vk, vn, vt⟩] g.ns.length) hN0)
          have hcz : Hid (∀ z, Below y.heap.size y z → z.cell? ⟨w.heap.size, 0, none⟩ = some (.slice a n c) ∧ z.cell? ⟨w.heap.size, 1, none⟩ = some (.slice b m d) ∧ z.cell? ⟨w.heap.size + 1, 0, none⟩ = some (.int .i64 q0) ∧ z.cell? ⟨w.heap.size + 1, 1, none⟩ = some (.string q1) ∧ z.cell? ⟨w.heap.size + 1, 2, none⟩ = some (.string q2) ∧ z.cell? ⟨w.heap.size + 1, 3, none⟩ = some (.int .i64 q3) ∧ z.cell? ⟨w.heap.size + 1, 4, none⟩ = some (.int .i64 vk) ∧ z.cell? ⟨w.heap.size + 1, 5, none⟩ = some (.int .i64 vn) ∧ z.cell? ⟨w.heap.size + 1, 6, none⟩ = some (.string vt)) := hidden fun z h => by
            obtain ⟨⟨p0, p1⟩, -⟩ := box2f (box_below hXg.out h)
            exact ⟨p0, p1, box7u (box_below hXq.out h)⟩
          have hrto : Hid (∀ z, Below y.heap.size y z → Calls Try.prog 21 #[.agg #[.slice a n c, .slice b m d], .string q2, .int .i64 q3, .agg #[.int .i64 vk, .int .i64 vn, .string vt]] z fun e w' => ∃ v, e = .returned v ∧ HoldsR natR w' v (bothN g.ns [⟨q2, q3, vk, vn, vt⟩] g.ns.length) ∧ Below z.heap.size z w') := hidden fun z h => rtest8_c g vs a n c b m d ⟨q2, q3, vk, vn, vt⟩ z (hO7.out.below h) hsm.out
          have hcto : Hid ((checkG g).2 = 0 → ∀ C B z, ColAt g.ns C B z → Calls Try.prog 20 #[.pointer (some ⟨C.gb, 0, none⟩), .string q2, .int .i64 q3, .agg #[.int .i64 vk, .int .i64 vn, .string vt]] z fun e w' => ∃ v, e = .returned v ∧ w'.ownsRow z.heap.size 3 1 v (bothN g.ns [⟨q2, q3, vk, vn, vt⟩] g.ns.length).length (natR.flat (bothN g.ns [⟨q2, q3, vk, vn, vt⟩] g.ns.length)) ∧ Below z.heap.size z w') := hidden fun hg C B z hC => by
            have h := coltest_c g.ns C B q2 q3 vk vn vt z hC hs2.out hN0 hps.out
            have e := colT_is hg ⟨q2, q3, vk, vn, vt⟩
            simp only at e
            rw [e, natI, List.length_map] at h
            exact h
          have hlO := hidden (Nat.le_trans (bothN_len g.ns [⟨q2, q3, vk, vn, vt⟩] g.ns.length) hN0)
          have hchk : Hid (∀ z, Below y.heap.size y z → Calls Try.prog 11 #[.agg #[.slice a n c, .slice b m d]] z fun e w' => e = .returned (.tuple #[.int .i64 (checkG g).1, .int .i64 (checkG g).2]) ∧ Below z.heap.size z w') := hidden fun z h => rcheck_c g vs a n c b m d z (hO7.out.below h) hsm.out
          have hgl : Hid (g.ns.length = n) := hidden hgn.symm
          have hall : Hid (∀ C B z, ColAt g.ns C B z → Calls Try.prog 16 #[.pointer (some ⟨C.gb, 0, none⟩)] z fun e w' => ∃ a' c', e = .returned (.slice a' n c') ∧ RowAt w' a' (ints (List.range n)) ∧ Below z.heap.size z w') := hidden fun C B z hC => by
            have h := colall_c g.ns C B z hC hN0
            rw [hgl.out] at h
            exact h.mono fun e w' ⟨a', c', he, ho, hb⟩ => ⟨a', c', he, range_row ho, hb⟩
          have hli : Hid (∀ C B z, ColAt g.ns C B z → ∀ k, k < n → Calls Try.prog 13 #[.pointer (some ⟨C.gb, 0, none⟩), .int .i64 (k : Int)] z fun e w' => e = .returned (.tuple #[.string (g.ns.getD k Nd.none).l, .bool true]) ∧ w' = z) := hidden fun C B z hC k hk => labelIn_c g.ns C B k z hC (by rw [hgl.out]; exact hk)
          have hlo : Hid (∀ C B z, ColAt g.ns C B z → ∀ k : Int, k < 0 ∨ (n : Int) ≤ k → Calls Try.prog 13 #[.pointer (some ⟨C.gb, 0, none⟩), .int .i64 k] z fun e w' => e = .returned (.tuple #[.string ⟨#[]⟩, .bool false]) ∧ w' = z) := hidden fun C B z hC k hk => labelOut_c g.ns C B k z hC (by rw [hgl.out]; exact hk)
          have hgi : Hid (∀ C B z, ColAt g.ns C B z → ∀ k, k < n → Calls Try.prog 14 #[.pointer (some ⟨C.gb, 0, none⟩), .int .i64 (k : Int), .string q2] z fun e w' => e = .returned (.agg #[.int .i64 (pv (g.ns.getD k Nd.none).ps q2).k, .int .i64 (pv (g.ns.getD k Nd.none).ps q2).n, .string (pv (g.ns.getD k Nd.none).ps q2).t]) ∧ Below z.heap.size z w') := hidden fun C B z hC k hk => getIn_c g.ns C B k q2 z hC (by rw [hgl.out]; exact hk) (hps.out k)
          have hgo : Hid (∀ C B z, ColAt g.ns C B z → ∀ k : Int, k < 0 ∨ (n : Int) ≤ k → Calls Try.prog 14 #[.pointer (some ⟨C.gb, 0, none⟩), .int .i64 k, .string q2] z fun e w' => e = .returned (.agg #[.int .i64 0, .int .i64 0, .string ⟨#[]⟩]) ∧ Below z.heap.size z w') := hidden fun C B z hC k hk => getOut_c g.ns C B k q2 z hC (by rw [hgl.out]; exact hk)
          have hri : Hid (∀ z, Below y.heap.size y z → ∀ k, k < n → Calls Try.prog 15 #[.agg #[.slice a n c, .slice b m d], .int .i64 (k : Int), .string q2] z fun e w' => e = .returned (.agg #[.int .i64 (pv (g.ns.getD k Nd.none).ps q2).k, .int .i64 (pv (g.ns.getD k Nd.none).ps q2).n, .string (pv (g.ns.getD k Nd.none).ps q2).t]) ∧ Below z.heap.size z w') := hidden fun z h k hk => rget_c g vs a n c b m d k q2 z (hO7.out.below h) hsm.out hk
          have hnd : Hid (∀ k, k < n → ∃ gn off, a = some ⟨gn, off, none⟩ ∧ ∀ z, Below y.heap.size y z → z.cell? ⟨gn, off + k * 2, none⟩ = some (.string (g.ns.getD k Nd.none).l)) := hidden fun k hk => by
            obtain ⟨gn, off, pa, pc, ha, hbb, d0, -⟩ := node_in hO7.out (k := k) (by rw [hgl.out]; exact hk)
            exact ⟨gn, off, ha, fun z h => (h.cell (p := ⟨gn, off + k * 2, none⟩) hbb).trans d0⟩
          clear hXg hXq hO7 hff hs1 hs2 hR hps hgood
          clear hgn
          generalize labN g.ns g.ns.length q1 = LW at *
          generalize bothN g.ns [⟨q2, 1, vk, vn, vt⟩] g.ns.length = LT at *
          generalize bothN g.ns [⟨q2, q3, vk, vn, vt⟩] g.ns.length = LO at *
          obtain ⟨b0, b1, -⟩ := hcz.out y (Below.refl _ _)
          go_wp2_with fail
          refine (hfew.out y (Below.refl _ _)).mono ?_
          rintro e r2 ⟨us, a3, n3, c3, b3, m3, d3, rfl, hU, hD⟩
          have k2 : Hid (Below y.heap.size y r2) := hidden hD
          clear hD b0 b1
          by_cases hok : (checkG g).2 = 0
          · have h2 := colNew_c g us a3 n3 c3 b3 m3 d3 r2 hU hsm.out hok
            clear hU
            go_wp2_with fail
            refine h2.mono ?_
            rintro e r3 ⟨C, rfl, hCs, hD⟩
            have k3 : Hid (Below y.heap.size y r3) := hidden (k2.out.trans (hD.mono k2.out.size))
            replace hCs := hidden hCs
            obtain ⟨b0, b1, -⟩ := hcz.out r3 k3.out
            have h3 := hchk.out r3 k3.out
            have hchC := hidden (hch.out hok C)
            have hcvC := hidden (hcv.out hok C)
            have hcwC := hidden (hcw.out C)
            have hctC := hidden (hcto.out hok C)
            have hallC := hidden (hall.out C)
            have hliC := hidden (hli.out C)
            have hloC := hidden (hlo.out C)
            have hgiC := hidden (hgi.out C)
            have hgoC := hidden (hgo.out C)
            rw [hok] at h3
            generalize (checkG g).1 = qq at *
            replace hok := hidden hok
            clear hD k2 h2 hch hcv hcw hcto hall hli hlo hgi hgo hchk
            go_wp2_with fail
            refine h3.mono ?_
            rintro e r4 ⟨rfl, hD⟩
            have k4 : Hid (Below y.heap.size y r4) := hidden (k3.out.trans (hD.mono k3.out.size))
            replace hCs := hidden (hCs.out.step hD)
            obtain ⟨b0, b1, s0, s1, s2, s3, s4, s5, s6⟩ := hcz.out r4 k4.out
            clear hD k3 h3
            by_cases hin : 0 ≤ q0 ∧ q0 < (n : Int)
            · obtain ⟨k, rfl⟩ : ∃ k : Nat, q0 = k := ⟨q0.toNat, by omega⟩
              have hkn : k < n := by omega
              have hkh := hidden hkn
              have hk0 : (0 : Int) ≤ (k : Int) := by omega
              have hk1 : (k : Int) < (n : Int) := by omega
              have hk2 : ¬ (k : Int) < 0 := by omega
              have hlb := hliC.out _ r4 hCs.out k hkn
              obtain ⟨gn, off, rfl, hnl⟩ := hnd.out k hkn
              have hgC := hidden (hgiC.out)
              have hrC := hidden (hri.out)
              generalize (g.ns.getD k Nd.none).l = l at *
              clear hnd hin hloC hgoC hliC hgiC
              go_wp2_with fail
              refine hlb.mono ?_
              rintro e w4 ⟨rfl, rfl⟩
              replace hnl := hidden hnl
              clear hlb
              go_wp2_with fail
              have hcr : Hid (∀ z, Below w4.heap.size w4 z → z.cell? ⟨w.heap.size, 0, none⟩ = some (.slice (some ⟨gn, off, none⟩) n c) ∧ z.cell? ⟨w.heap.size, 1, none⟩ = some (.slice b m d) ∧ z.cell? ⟨w.heap.size + 1, 0, none⟩ = some (.int .i64 (k : Int)) ∧ z.cell? ⟨w.heap.size + 1, 1, none⟩ = some (.string q1) ∧ z.cell? ⟨w.heap.size + 1, 2, none⟩ = some (.string q2) ∧ z.cell? ⟨w.heap.size + 1, 3, none⟩ = some (.int .i64 q3) ∧ z.cell? ⟨w.heap.size + 1, 4, none⟩ = some (.int .i64 vk) ∧ z.cell? ⟨w.heap.size + 1, 5, none⟩ = some (.int .i64 vn) ∧ z.cell? ⟨w.heap.size + 1, 6, none⟩ = some (.string vt) ∧ z.cell? ⟨gn, off + k * 2, none⟩ = some (.string l)) := hidden fun z h => by
                obtain ⟨p0, p1, p2, p3, p4, p5, p6, p7, p8⟩ := hcz.out z (k4.out.trans (h.mono k4.out.size))
                exact ⟨p0, p1, p2, p3, p4, p5, p6, p7, p8, hnl.out z (k4.out.trans (h.mono k4.out.size))⟩
              have kk : Hid (Below w4.heap.size w4 w4.drew) := hidden (Below.refl _ _).drew
              have hS := hcr.out _ kk.out
              have hgv := hidden fun z (h : Below w4.heap.size w4 z) => hgC.out _ z (hCs.out.step h) k hkh.out
              have hrv9 := hidden fun z (h : Below w4.heap.size w4 z) => hrC.out z (k4.out.trans (h.mono k4.out.size)) k hkh.out
              generalize (pv (g.ns.getD k Nd.none).ps q2).k = pk at *
              generalize (pv (g.ns.getD k Nd.none).ps q2).n = pn at *
              generalize (pv (g.ns.getD k Nd.none).ps q2).t = pt at *
              have hq : ∀ z, (binOp .neq 27 (.agg #[.int .i64 pk, .int .i64 pn, .string pt]) (.agg #[.int .i64 pk, .int .i64 pn, .string pt])).run Try.prog z = .ok (.bool false) z := fun z => by
                rw [neqVa ⟨pk, pn, pt⟩ ⟨pk, pn, pt⟩ z]; simp
              clear b0 b1 s0 s1 s2 s3 s4 s5 s6 hgC hrC hri
              refine wp_region_parts (S := (fun z => z.cell? ⟨w.heap.size, 0, none⟩ = some (.slice (some ⟨gn, off, none⟩) n c) ∧ z.cell? ⟨w.heap.size, 1, none⟩ = some (.slice b m d) ∧ z.cell? ⟨w.heap.size + 1, 0, none⟩ = some (.int .i64 (k : Int)) ∧ z.cell? ⟨w.heap.size + 1, 1, none⟩ = some (.string q1) ∧ z.cell? ⟨w.heap.size + 1, 2, none⟩ = some (.string q2) ∧ z.cell? ⟨w.heap.size + 1, 3, none⟩ = some (.int .i64 q3) ∧ z.cell? ⟨w.heap.size + 1, 4, none⟩ = some (.int .i64 vk) ∧ z.cell? ⟨w.heap.size + 1, 5, none⟩ = some (.int .i64 vn) ∧ z.cell? ⟨w.heap.size + 1, 6, none⟩ = some (.string vt) ∧ z.cell? ⟨gn, off + k * 2, none⟩ = some (.string l))) #[false, false, false, false, false, false, false, false, false, false, false, false, false, false, false, false, false, false, false, false, false, false, false, false, false, false, false, false, false, false, false, false, false, false, false, false, false, false, true, true] #[true, true, true, true, true, true, true, true, true, true, true, true, true, true, true, true, true, true, true, true, true, true, true, true, true, true, true, true, true, true, true, true, true, true, true, true, true, true, false, false] [38, 39] 40 38 (by kernel_rfl) (by kernel_rfl) (by kernel_rfl) (by rfl) ?_ (fun hHeld => ?_)
              · exact hS
              first
                | (refine wpAnyH_take (i := 0) (v := ?_) at0 (by kernel_rfl) (by kernel_rfl) (by kernel_rfl) (fun _ _ _ h => h) (Or.inl ⟨by rfl, ?_⟩) (by assumption) ?_
                   rotate_left
                   · intro w hSw; (try dsimp only at hSw); go_simp; try with_reducible rfl)
                | fail "take 0"
              try simp only [Act.put, List.setIfInBounds_toArray, List.set_cons_zero, List.set_cons_succ]
              first
                | (refine wpAnyH_take (i := 1) (v := ?_) at1 (by kernel_rfl) (by kernel_rfl) (by kernel_rfl) (fun _ _ _ h => h) (Or.inl ⟨by rfl, ?_⟩) (by assumption) ?_
                   rotate_left
                   · intro w hSw; (try dsimp only at hSw); go_simp; try with_reducible rfl)
                | fail "take 1"
              try simp only [Act.put, List.setIfInBounds_toArray, List.set_cons_zero, List.set_cons_succ]
              first
                | (refine wpAnyH_take (i := 2) (v := ?_) at2 (by kernel_rfl) (by kernel_rfl) (by kernel_rfl) (fun _ _ _ h => h) (Or.inl ⟨by rfl, ?_⟩) (by assumption) ?_
                   rotate_left
                   · intro w hSw; (try dsimp only at hSw); go_simp; try with_reducible rfl)
                | fail "take 2"
              try simp only [Act.put, List.setIfInBounds_toArray, List.set_cons_zero, List.set_cons_succ]
              first
                | (refine wpAnyH_take (i := 3) (v := ?_) at3 (by kernel_rfl) (by kernel_rfl) (by kernel_rfl) (fun _ _ _ h => h) (Or.inl ⟨by rfl, ?_⟩) (by assumption) ?_
                   rotate_left
                   · intro w hSw; (try dsimp only at hSw); go_simp; try with_reducible rfl)
                | fail "take 3"
              try simp only [Act.put, List.setIfInBounds_toArray, List.set_cons_zero, List.set_cons_succ]
              first
                | (refine wpAnyH_take (i := 4) (v := ?_) at4 (by kernel_rfl) (by kernel_rfl) (by kernel_rfl) (fun _ _ _ h => h) (Or.inl ⟨by rfl, ?_⟩) (by assumption) ?_
                   rotate_left
                   · intro w hSw; (try dsimp only at hSw); go_simp; try with_reducible rfl)
                | fail "take 4"
              try simp only [Act.put, List.setIfInBounds_toArray, List.set_cons_zero, List.set_cons_succ]
              first
                | (refine wpAnyH_take (i := 5) (v := ?_) at5 (by kernel_rfl) (by kernel_rfl) (by kernel_rfl) (fun _ _ _ h => h) (Or.inl ⟨by rfl, ?_⟩) (by assumption) ?_
                   rotate_left
                   · intro w hSw; (try dsimp only at hSw); go_simp; try with_reducible rfl)
                | fail "take 5"
              try simp only [Act.put, List.setIfInBounds_toArray, List.set_cons_zero, List.set_cons_succ]
              first
                | (refine wpAnyH_take (i := 6) (v := ?_) at6 (by kernel_rfl) (by kernel_rfl) (by kernel_rfl) (fun _ _ _ h => h) (Or.inl ⟨by rfl, ?_⟩) (by assumption) ?_
                   rotate_left
                   · intro w hSw; (try dsimp only at hSw); go_simp; try with_reducible rfl)
                | fail "take 6"
              try simp only [Act.put, List.setIfInBounds_toArray, List.set_cons_zero, List.set_cons_succ]
              first
                | (refine wpAnyH_take (i := 7) (v := ?_) at7 (by kernel_rfl) (by kernel_rfl) (by kernel_rfl) (fun _ _ _ h => h) (Or.inl ⟨by rfl, ?_⟩) (by assumption) ?_
                   rotate_left
                   · intro w hSw; (try dsimp only at hSw); go_simp; try with_reducible rfl)
                | fail "take 7"
              try simp only [Act.put, List.setIfInBounds_toArray, List.set_cons_zero, List.set_cons_succ]
              first
                | (refine wpAnyH_take (i := 8) (v := ?_) at8 (by kernel_rfl) (by kernel_rfl) (by kernel_rfl) (fun _ _ _ h => h) (Or.inl ⟨by rfl, ?_⟩) (by assumption) ?_
                   rotate_left
                   · intro w hSw; (try dsimp only at hSw); go_simp; try with_reducible rfl)
                | fail "take 8"
              try simp only [Act.put, List.setIfInBounds_toArray, List.set_cons_zero, List.set_cons_succ]
              first
                | (refine wpAnyH_take (i := 9) (v := ?_) at9 (by kernel_rfl) (by kernel_rfl) (by kernel_rfl) (fun _ _ _ h => h) (Or.inl ⟨by rfl, ?_⟩) (by assumption) ?_
                   rotate_left
                   · intro w hSw; (try dsimp only at hSw); go_simp; try with_reducible rfl)
                | fail "take 9"
              try simp only [Act.put, List.setIfInBounds_toArray, List.set_cons_zero, List.set_cons_succ]
              first
                | (refine wpAnyH_take (i := 10) (v := ?_) at10 (by kernel_rfl) (by kernel_rfl) (by kernel_rfl) (fun _ _ _ h => h) (Or.inl ⟨by rfl, ?_⟩) (by assumption) ?_
                   rotate_left
                   · intro w hSw; (try dsimp only at hSw); go_simp; try with_reducible rfl)
                | fail "take 10"
              try simp only [Act.put, List.setIfInBounds_toArray, List.set_cons_zero, List.set_cons_succ]
              first
                | (refine wpAnyH_take (i := 11) (v := ?_) at11 (by kernel_rfl) (by kernel_rfl) (by kernel_rfl) (fun _ _ _ h => h) (Or.inl ⟨by rfl, ?_⟩) (by assumption) ?_
                   rotate_left
                   · intro w hSw; (try dsimp only at hSw); go_simp; try with_reducible rfl)
                | fail "take 11"
              try simp only [Act.put, List.setIfInBounds_toArray, List.set_cons_zero, List.set_cons_succ]
              first
                | (refine wpAnyH_take (i := 12) (v := ?_) at12 (by kernel_rfl) (by kernel_rfl) (by kernel_rfl) (fun _ _ _ h => h) (Or.inl ⟨by rfl, ?_⟩) (by assumption) ?_
                   rotate_left
                   · intro w hSw; (try dsimp only at hSw); go_simp; try with_reducible rfl)
                | fail "take 12"
              try simp only [Act.put, List.setIfInBounds_toArray, List.set_cons_zero, List.set_cons_succ]
              first
                | (refine wpAnyH_take (i := 13) (v := ?_) at13 (by kernel_rfl) (by kernel_rfl) (by kernel_rfl) (fun _ _ _ h => h) (Or.inl ⟨by rfl, ?_⟩) (by assumption) ?_
                   rotate_left
                   · intro w hSw; (try dsimp only at hSw); go_simp; try with_reducible rfl)
                | fail "take 13"
              try simp only [Act.put, List.setIfInBounds_toArray, List.set_cons_zero, List.set_cons_succ]
              first
                | (refine wpAnyH_take (i := 14) (v := ?_) at14 (by kernel_rfl) (by kernel_rfl) (by kernel_rfl) (fun _ _ _ h => h) (Or.inl ⟨by rfl, ?_⟩) (by assumption) ?_
                   rotate_left
                   · intro w hSw; (try dsimp only at hSw); go_simp; try with_reducible rfl)
                | fail "take 14"
              try simp only [Act.put, List.setIfInBounds_toArray, List.set_cons_zero, List.set_cons_succ]
              first
                | (refine wpAnyH_take (i := 15) (v := ?_) at15 (by kernel_rfl) (by kernel_rfl) (by kernel_rfl) (fun _ _ _ h => h) (Or.inl ⟨by rfl, ?_⟩) (by assumption) ?_
                   rotate_left
                   · intro w hSw; (try dsimp only at hSw); go_simp; try with_reducible rfl)
                | fail "take 15"
              try simp only [Act.put, List.setIfInBounds_toArray, List.set_cons_zero, List.set_cons_succ]
              first
                | (refine wpAnyH_take (i := 16) (v := ?_) at16 (by kernel_rfl) (by kernel_rfl) (by kernel_rfl) (fun _ _ _ h => h) (Or.inl ⟨by rfl, ?_⟩) (by assumption) ?_
                   rotate_left
                   · intro w hSw; (try dsimp only at hSw); go_simp; try with_reducible rfl)
                | fail "take 16"
              try simp only [Act.put, List.setIfInBounds_toArray, List.set_cons_zero, List.set_cons_succ]
              first
                | (refine wpAnyH_take (i := 17) (v := ?_) at17 (by kernel_rfl) (by kernel_rfl) (by kernel_rfl) (fun _ _ _ h => h) (Or.inl ⟨by rfl, ?_⟩) (by assumption) ?_
                   rotate_left
                   · intro w hSw; (try dsimp only at hSw); go_simp; try with_reducible rfl)
                | fail "take 17"
              try simp only [Act.put, List.setIfInBounds_toArray, List.set_cons_zero, List.set_cons_succ]
              first
                | (refine wpAnyH_take (i := 18) (v := ?_) at18 (by kernel_rfl) (by kernel_rfl) (by kernel_rfl) (fun _ _ _ h => h) (Or.inl ⟨by rfl, ?_⟩) (by assumption) ?_
                   rotate_left
                   · intro w hSw; (try dsimp only at hSw); go_simp; try with_reducible rfl)
                | fail "take 18"
              try simp only [Act.put, List.setIfInBounds_toArray, List.set_cons_zero, List.set_cons_succ]
              first
                | (refine wpAnyH_take (i := 19) (v := ?_) at19 (by kernel_rfl) (by kernel_rfl) (by kernel_rfl) (fun _ _ _ h => h) (Or.inl ⟨by rfl, ?_⟩) (by assumption) ?_
                   rotate_left
                   · intro w hSw; (try dsimp only at hSw); go_simp; try with_reducible rfl)
                | fail "take 19"
              try simp only [Act.put, List.setIfInBounds_toArray, List.set_cons_zero, List.set_cons_succ]
              first
                | (refine wpAnyH_take (i := 20) (v := ?_) at20 (by kernel_rfl) (by kernel_rfl) (by kernel_rfl) (fun _ _ _ h => h) (Or.inl ⟨by rfl, ?_⟩) (by assumption) ?_
                   rotate_left
                   · intro w hSw; (try dsimp only at hSw); go_simp; try with_reducible rfl)
                | fail "take 20"
              try simp only [Act.put, List.setIfInBounds_toArray, List.set_cons_zero, List.set_cons_succ]
              refine wpAnyH_take (i := 21) (v := undef) at21 (by kernel_rfl) (by kernel_rfl) (by kernel_rfl) (fun _ _ _ h => h) (Or.inr ⟨by rfl, rfl⟩) (by assumption) ?_
              try simp only [Act.put, List.setIfInBounds_toArray, List.set_cons_zero, List.set_cons_succ]
              refine wpAnyH_take (i := 22) (v := undef) at22 (by kernel_rfl) (by kernel_rfl) (by kernel_rfl) (fun _ _ _ h => h) (Or.inr ⟨by rfl, rfl⟩) (by assumption) ?_
              try simp only [Act.put, List.setIfInBounds_toArray, List.set_cons_zero, List.set_cons_succ]
              first
                | (refine wpAnyH_take (i := 23) (v := ?_) at23 (by kernel_rfl) (by kernel_rfl) (by kernel_rfl) (fun _ _ _ h => h) (Or.inl ⟨by rfl, ?_⟩) (by assumption) ?_
                   rotate_left
                   · intro w hSw; (try dsimp only at hSw); go_simp; try with_reducible rfl)
                | fail "take 23"
              try simp only [Act.put, List.setIfInBounds_toArray, List.set_cons_zero, List.set_cons_succ]
              first
                | (refine wpAnyH_take (i := 24) (v := ?_) at24 (by kernel_rfl) (by kernel_rfl) (by kernel_rfl) (fun _ _ _ h => h) (Or.inl ⟨by rfl, ?_⟩) (by assumption) ?_
                   rotate_left
                   · intro w hSw; (try dsimp only at hSw); go_simp; try with_reducible rfl)
                | fail "take 24"
              try simp only [Act.put, List.setIfInBounds_toArray, List.set_cons_zero, List.set_cons_succ]
              first
                | (refine wpAnyH_take (i := 25) (v := ?_) at25 (by kernel_rfl) (by kernel_rfl) (by kernel_rfl) (fun _ _ _ h => h) (Or.inl ⟨by rfl, ?_⟩) (by assumption) ?_
                   rotate_left
                   · intro w hSw; (try dsimp only at hSw); go_simp; try with_reducible rfl)
                | fail "take 25"
              try simp only [Act.put, List.setIfInBounds_toArray, List.set_cons_zero, List.set_cons_succ]
              first
                | (refine wpAnyH_take (i := 26) (v := ?_) at26 (by kernel_rfl) (by kernel_rfl) (by kernel_rfl) (fun _ _ _ h => h) (Or.inl ⟨by rfl, ?_⟩) (by assumption) ?_
                   rotate_left
                   · intro w hSw; (try dsimp only at hSw); go_simp; try with_reducible rfl)
                | fail "take 26"
              try simp only [Act.put, List.setIfInBounds_toArray, List.set_cons_zero, List.set_cons_succ]
              first
                | (refine wpAnyH_take (i := 27) (v := ?_) at27 (by kernel_rfl) (by kernel_rfl) (by kernel_rfl) (fun _ _ _ h => h) (Or.inl ⟨by rfl, ?_⟩) (by assumption) ?_
                   rotate_left
                   · intro w hSw; (try dsimp only at hSw); go_simp; try with_reducible rfl)
                | fail "take 27"
              try simp only [Act.put, List.setIfInBounds_toArray, List.set_cons_zero, List.set_cons_succ]
              first
                | (refine wpAnyH_take (i := 28) (v := ?_) at28 (by kernel_rfl) (by kernel_rfl) (by kernel_rfl) (fun _ _ _ h => h) (Or.inl ⟨by rfl, ?_⟩) (by assumption) ?_
                   rotate_left
                   · intro w hSw; (try dsimp only at hSw); go_simp; try with_reducible rfl)
                | fail "take 28"
              try simp only [Act.put, List.setIfInBounds_toArray, List.set_cons_zero, List.set_cons_succ]
              first
                | (refine wpAnyH_take (i := 29) (v := ?_) at29 (by kernel_rfl) (by kernel_rfl) (by kernel_rfl) (fun _ _ _ h => h) (Or.inl ⟨by rfl, ?_⟩) (by assumption) ?_
                   rotate_left
                   · intro w hSw; (try dsimp only at hSw); go_simp; try with_reducible rfl)
                | fail "take 29"
              try simp only [Act.put, List.setIfInBounds_toArray, List.set_cons_zero, List.set_cons_succ]
              first
                | (refine wpAnyH_take (i := 30) (v := ?_) at30 (by kernel_rfl) (by kernel_rfl) (by kernel_rfl) (fun _ _ _ h => h) (Or.inl ⟨by rfl, ?_⟩) (by assumption) ?_
                   rotate_left
                   · intro w hSw; (try dsimp only at hSw); go_simp; try with_reducible rfl)
                | fail "take 30"
              try simp only [Act.put, List.setIfInBounds_toArray, List.set_cons_zero, List.set_cons_succ]
              first
                | (refine wpAnyH_take (i := 32) (v := ?_) at32 (by kernel_rfl) (by kernel_rfl) (by kernel_rfl) (fun _ _ _ h => h) (Or.inl ⟨by rfl, ?_⟩) (by assumption) ?_
                   rotate_left
                   · intro w hSw; (try dsimp only at hSw); go_simp; try with_reducible rfl)
                | fail "take 32"
              try simp only [Act.put, List.setIfInBounds_toArray, List.set_cons_zero, List.set_cons_succ]
              first
                | (refine wpAnyH_take (i := 33) (v := ?_) at33 (by kernel_rfl) (by kernel_rfl) (by kernel_rfl) (fun _ _ _ h => h) (Or.inl ⟨by rfl, ?_⟩) (by assumption) ?_
                   rotate_left
                   · intro w hSw; (try dsimp only at hSw); go_simp; try with_reducible rfl)
                | fail "take 33"
              try simp only [Act.put, List.setIfInBounds_toArray, List.set_cons_zero, List.set_cons_succ]
              first
                | (refine wpAnyH_take (i := 34) (v := ?_) at34 (by kernel_rfl) (by kernel_rfl) (by kernel_rfl) (fun _ _ _ h => h) (Or.inl ⟨by rfl, ?_⟩) (by assumption) ?_
                   rotate_left
                   · intro w hSw; (try dsimp only at hSw); go_simp; try with_reducible rfl)
                | fail "take 34"
              try simp only [Act.put, List.setIfInBounds_toArray, List.set_cons_zero, List.set_cons_succ]
              first
                | (refine wpAnyH_take (i := 35) (v := ?_) at35 (by kernel_rfl) (by kernel_rfl) (by kernel_rfl) (fun _ _ _ h => h) (Or.inl ⟨by rfl, ?_⟩) (by assumption) ?_
                   rotate_left
                   · intro w hSw; (try dsimp only at hSw); go_simp; try with_reducible rfl)
                | fail "take 35"
              try simp only [Act.put, List.setIfInBounds_toArray, List.set_cons_zero, List.set_cons_succ]
              first
                | (refine wpAnyH_take (i := 36) (v := ?_) at36 (by kernel_rfl) (by kernel_rfl) (by kernel_rfl) (fun _ _ _ h => h) (Or.inl ⟨by rfl, ?_⟩) (by assumption) ?_
                   rotate_left
                   · intro w hSw; (try dsimp only at hSw); go_simp; try with_reducible rfl)
                | fail "take 36"
              try simp only [Act.put, List.setIfInBounds_toArray, List.set_cons_zero, List.set_cons_succ]
              refine wpAnyH_ready (rs := [31]) (by kernel_rfl) (by simp) ?_
              refine AllReadyH.cons (i := 31) at31 (fun K hK => ?_) AllReadyH.nil
              go_simp
              refine (hgv.out _ kk.out).mono ?_
              rintro e y8 ⟨rfl, hBz⟩
              have kk := hidden (kk.out.trans (hBz.mono kk.out.size))
              have hSn := hcr.out y8 kk.out
              refine hK.out _ _ ?_ (fun hNew => ?_)
              · exact hSn
              clear hK K hHeld
              have hHeld := hNew
              clear hNew
              try simp only [List.setIfInBounds_toArray, List.set_cons_zero, List.set_cons_succ]
              refine wpAnyH_ready (rs := [37]) (by kernel_rfl) (by simp) ?_
              refine AllReadyH.cons (i := 37) at37 (fun K hK => ?_) AllReadyH.nil
              go_simp
              refine (hrv9.out _ kk.out).mono ?_
              rintro e y9 ⟨rfl, hBz⟩
              have kk := hidden (kk.out.trans (hBz.mono kk.out.size))
              have hSn := hcr.out y9 kk.out
              refine hK.out _ _ ?_ (fun hNew => ?_)
              · exact hSn
              clear hK K hHeld
              have hHeld := hNew
              clear hNew
              try simp only [List.setIfInBounds_toArray, List.set_cons_zero, List.set_cons_succ]
              refine tail_list (is := [38, 39]) (l := _) (by kernel_rfl) (by kernel_rfl) (by kernel_rfl) rfl ?_
              simp only [List.filterMap_cons, List.filterMap_nil, at38, at39]
              show wpList _ _ _ (_ :: _) _ _
              go_wp2_with fail
              clear hS hSn hHeld hq hgv hrv9 hcr hnl
              have ky : Hid (Below y.heap.size y y9) := hidden (k4.out.trans (kk.out.mono k4.out.size))
              replace hCs := hidden (hCs.out.step kk.out)
              have hav := hallC.out _ y9 hCs.out
              clear kk k4
              go_wp2_with fail
              refine hav.mono ?_
              rintro e r5 ⟨aa, ac, rfl, hra, hD⟩
              have k5 : Hid (Below y.heap.size y r5) := hidden (ky.out.trans (hD.mono ky.out.size))
              replace hCs := hidden (hCs.out.step hD)
              replace hra := hidden hra
              clear hav hD ky hallC
              go_wp2_with fail
              go_loopw [13] (fun i wr => ∃ j : Nat, j ≤ n ∧ i = .int .i64 j ∧ Hid (Below r5.heap.size r5 wr))
                (fun i _ => n - (intOf i).toNat)
              case atStart => exact ⟨0, Nat.zero_le _, rfl, hidden (Below.refl _ _)⟩
              case round =>
                obtain ⟨j, hj, rfl, hnx⟩ := hrel
                by_cases hlt : j < n
                · have hlt' : (j : Int) < (n : Int) := by omega
                  obtain ⟨ab, ao, rfl, -, f0⟩ := all_at (hra.out.below hnx.out) hlt
                  have hjj : ((j : Int) != (j : Int)) = false := by simp
                  go_wp2
                  go_roundw
                  case rel => exact ⟨j + 1, by omega, by go_num, hnx⟩
                  case measure => simp [intOf]; omega
                · have hlt' : ¬ (j : Int) < (n : Int) := by omega
                  have ky : Hid (Below y.heap.size y wr) := hidden (k5.out.trans (hnx.out.mono k5.out.size))
                  have oC := hidden (hCs.out.step hnx.out.drew)
                  have kk : Hid (Below y.heap.size y wr.drew) := hidden ky.out.drew
                  have hS := hcz.out _ kk.out
                  have hnn : ((n : Int) != (n : Int)) = false := by simp
                  clear hra hnx ky k5 hCs hj hlt
                  go_wp2_with fail
                  clear hlt'
                  go_region_held3 (fun z => z.cell? ⟨w.heap.size, 0, none⟩ = some (.slice (some ⟨gn, off, none⟩) n c) ∧ z.cell? ⟨w.heap.size, 1, none⟩ = some (.slice b m d) ∧ z.cell? ⟨w.heap.size + 1, 0, none⟩ = some (.int .i64 (k : Int)) ∧ z.cell? ⟨w.heap.size + 1, 1, none⟩ = some (.string q1) ∧ z.cell? ⟨w.heap.size + 1, 2, none⟩ = some (.string q2) ∧ z.cell? ⟨w.heap.size + 1, 3, none⟩ = some (.int .i64 q3) ∧ z.cell? ⟨w.heap.size + 1, 4, none⟩ = some (.int .i64 vk) ∧ z.cell? ⟨w.heap.size + 1, 5, none⟩ = some (.int .i64 vn) ∧ z.cell? ⟨w.heap.size + 1, 6, none⟩ = some (.string vt)) (first | exact hS | go_keep) (first
                    | (go_at_call 18; refine (hcwC.out _ _ oC.out).mono ?_; rintro e y9 ⟨ax, cx, rfl, hU, hBz⟩
                       have kk := hidden (kk.out.trans (hBz.mono kk.out.size))
                       have hS := hcz.out y9 kk.out
                       have oC := hidden (oC.out.step hBz)
                       have oA := hidden (natH (holdsR_of_owns (R := natR) hU))
                       have oL := hlW)
                    | (go_at_call 19; refine (hrw.out _ kk.out).mono ?_; rintro e y9 ⟨v2, rfl, hU, hBz⟩
                       have kk := hidden (kk.out.trans (hBz.mono kk.out.size))
                       have hS := hcz.out y9 kk.out
                       have oC := hidden (oC.out.step hBz)
                       have oA := hidden (oA.out.below hBz)
                       have oB := hidden (natH (holdsR_of_owns (R := natR) hU)))
                    | (go_at_call 20; refine (hctC.out _ _ oC.out).mono ?_; rintro e y9 ⟨v1, rfl, hU, hBz⟩
                       have kk := hidden (kk.out.trans (hBz.mono kk.out.size))
                       have hS := hcz.out y9 kk.out
                       have oC := hidden (oC.out.step hBz)
                       have oA := hidden (natH (holdsR_of_owns (R := natR) hU))
                       have oL := hlO)
                    | (go_at_call 21; refine (hrto.out _ kk.out).mono ?_; rintro e y9 ⟨v2, rfl, hU, hBz⟩
                       have kk := hidden (kk.out.trans (hBz.mono kk.out.size))
                       have hS := hcz.out y9 kk.out
                       have oC := hidden (oC.out.step hBz)
                       have oA := hidden (oA.out.below hBz)
                       have oB := hidden (natH hU))
                    | (go_at_call 17; refine (same_self _ _ _ _ oA.out oB.out (by have := oL.out; rw [List.length_map]; omega)).mono ?_; rintro e y9 ⟨rfl, hBz⟩
                       have kk := hidden (kk.out.trans (hBz.mono kk.out.size))
                       have hS := hcz.out y9 kk.out
                       have oC := hidden (oC.out.step hBz))
                    | fail)
                  have oC2 := hidden (oC.out.step (Below.refl _ _).drew)
                  have kk2 : Hid (Below y.heap.size y y9.drew) := hidden kk.out.drew
                  clear oC oA oB oL kk hS
                  have hS := hcz.out _ kk2.out
                  have kk := kk2
                  have oC := oC2
                  clear kk2 oC2
                  go_wp2_with fail
                  go_region_held3 (fun z => z.cell? ⟨w.heap.size, 0, none⟩ = some (.slice (some ⟨gn, off, none⟩) n c) ∧ z.cell? ⟨w.heap.size, 1, none⟩ = some (.slice b m d) ∧ z.cell? ⟨w.heap.size + 1, 0, none⟩ = some (.int .i64 (k : Int)) ∧ z.cell? ⟨w.heap.size + 1, 1, none⟩ = some (.string q1) ∧ z.cell? ⟨w.heap.size + 1, 2, none⟩ = some (.string q2) ∧ z.cell? ⟨w.heap.size + 1, 3, none⟩ = some (.int .i64 q3) ∧ z.cell? ⟨w.heap.size + 1, 4, none⟩ = some (.int .i64 vk) ∧ z.cell? ⟨w.heap.size + 1, 5, none⟩ = some (.int .i64 vn) ∧ z.cell? ⟨w.heap.size + 1, 6, none⟩ = some (.string vt)) (first | exact hS | go_keep) (first
                    | (go_at_call 22; refine (hchC.out _ _ oC.out).mono ?_; rintro e y9 ⟨v1, rfl, hU, hBz⟩
                       have kk := hidden (kk.out.trans (hBz.mono kk.out.size))
                       have hS := hcz.out y9 kk.out
                       have oC := hidden (oC.out.step hBz)
                       have oA := hidden (natH (holdsR_of_owns (R := natR) hU))
                       have oL := hlT)
                    | (go_at_call 21; refine (hrt.out _ kk.out).mono ?_; rintro e y9 ⟨v2, rfl, hU, hBz⟩
                       have kk := hidden (kk.out.trans (hBz.mono kk.out.size))
                       have hS := hcz.out y9 kk.out
                       have oC := hidden (oC.out.step hBz)
                       have oA := hidden (oA.out.below hBz)
                       have oB := hidden (natH hU))
                    | (go_at_call 17; refine (same_self _ _ _ _ oA.out oB.out (by have := oL.out; rw [List.length_map]; omega)).mono ?_; rintro e y9 ⟨rfl, hBz⟩
                       have kk := hidden (kk.out.trans (hBz.mono kk.out.size))
                       have hS := hcz.out y9 kk.out
                       have oC := hidden (oC.out.step hBz))
                    | (go_at_call 24; refine (hcvC.out _ _ oC.out).mono ?_; rintro e y9 ⟨az, cz, rfl, hU, hBz⟩
                       have kk := hidden (kk.out.trans (hBz.mono kk.out.size))
                       have hS := hcz.out y9 kk.out
                       have oC := hidden (oC.out.step hBz)
                       have oV := hidden (rowV hU))
                    | (go_at_call 25; refine (hrv.out _ kk.out).mono ?_; rintro e y9 ⟨av, cv, rfl, hU, hBz⟩
                       have kk := hidden (kk.out.trans (hBz.mono kk.out.size))
                       have hS := hcz.out y9 kk.out
                       have oV := hidden (oV.out.below hBz)
                       have oU := hidden hU)
                    | (go_at_call 23; refine (samev_c R _ _ _ _ _ oV.out oU.out (by omega)).mono ?_; rintro e y9 ⟨rfl, hBz⟩
                       have kk := hidden (kk.out.trans (hBz.mono kk.out.size))
                       have hS := hcz.out y9 kk.out
                       have hcwm := GoX.Calm.of_below (hC2.out.trans (kk.out.mono hC2.out.size)))
                    | (go_at_call 12; refine (hlv.out _ hcwm).mono ?_; rintro e y9 ⟨rfl, hBz⟩
                       have hfin : Hid (GoX.Calm w y9) := hidden (hcwm.trans hBz)
                       obtain ⟨e0, e1, e2, e3, e4, e5, e6, e7, e8⟩ := hS
                       have hS := And.intro (cell_calm hBz e0) (And.intro (cell_calm hBz e1) (And.intro (cell_calm hBz e2) (And.intro (cell_calm hBz e3) (And.intro (cell_calm hBz e4) (And.intro (cell_calm hBz e5) (And.intro (cell_calm hBz e6) (And.intro (cell_calm hBz e7) (cell_calm hBz e8)))))))))
                    | fail)
                  go_wp2
                  go_ret
                  exact ⟨by first | done | rfl | simp, hfin.out⟩
            · have hoo : q0 < 0 ∨ (n : Int) ≤ q0 := by omega
              have hoh := hidden hoo
              have hlb := hloC.out _ r4 hCs.out q0 hoo
              have hind : (q0 < 0 ∧ ¬ (0 : Int) ≤ q0) ∨ (0 ≤ q0 ∧ decide (q0 < (n : Int)) = false) := by
                rcases hoo with h | h
                · exact .inl ⟨h, by omega⟩
                · rcases Int.lt_or_le q0 0 with h0 | h0
                  · exact .inl ⟨h0, by omega⟩
                  · exact .inr ⟨h0, decide_eq_false (by omega)⟩
              have hq : ∀ z, (binOp .neq 27 (.agg #[.int .i64 0, .int .i64 0, .string ⟨#[]⟩]) (.agg #[.int .i64 0, .int .i64 0, .string ⟨#[]⟩])).run Try.prog z = .ok (.bool false) z := fun z => by
                rw [neqVa ⟨0, 0, ⟨#[]⟩⟩ ⟨0, 0, ⟨#[]⟩⟩ z]; simp
              clear hnd hin hliC hgiC hri hoo
              go_wp2_with fail
              refine hlb.mono ?_
              rintro e w4 ⟨rfl, rfl⟩
              clear hlb
              have hcr : Hid (∀ z, Below w4.heap.size w4 z → z.cell? ⟨w.heap.size, 0, none⟩ = some (.slice a n c) ∧ z.cell? ⟨w.heap.size, 1, none⟩ = some (.slice b m d) ∧ z.cell? ⟨w.heap.size + 1, 0, none⟩ = some (.int .i64 q0) ∧ z.cell? ⟨w.heap.size + 1, 1, none⟩ = some (.string q1) ∧ z.cell? ⟨w.heap.size + 1, 2, none⟩ = some (.string q2) ∧ z.cell? ⟨w.heap.size + 1, 3, none⟩ = some (.int .i64 q3) ∧ z.cell? ⟨w.heap.size + 1, 4, none⟩ = some (.int .i64 vk) ∧ z.cell? ⟨w.heap.size + 1, 5, none⟩ = some (.int .i64 vn) ∧ z.cell? ⟨w.heap.size + 1, 6, none⟩ = some (.string vt)) := hidden fun z h => hcz.out z (k4.out.trans (h.mono k4.out.size))
              have kk : Hid (Below w4.heap.size w4 w4.drew) := hidden (Below.refl _ _).drew
              have hS := hcr.out _ kk.out
              have hgv := hidden fun z (h : Below w4.heap.size w4 z) => hgoC.out _ z (hCs.out.step h) q0 hoh.out
              clear hgoC hloC
              rcases hind with ⟨hi1, hi2⟩ | ⟨hi1, hi2⟩
              all_goals
                go_wp2_with fail
                clear b0 b1 s0 s1 s2 s3 s4 s5 s6
                refine wp_region_parts (S := (fun z => z.cell? ⟨w.heap.size, 0, none⟩ = some (.slice a n c) ∧ z.cell? ⟨w.heap.size, 1, none⟩ = some (.slice b m d) ∧ z.cell? ⟨w.heap.size + 1, 0, none⟩ = some (.int .i64 q0) ∧ z.cell? ⟨w.heap.size + 1, 1, none⟩ = some (.string q1) ∧ z.cell? ⟨w.heap.size + 1, 2, none⟩ = some (.string q2) ∧ z.cell? ⟨w.heap.size + 1, 3, none⟩ = some (.int .i64 q3) ∧ z.cell? ⟨w.heap.size + 1, 4, none⟩ = some (.int .i64 vk) ∧ z.cell? ⟨w.heap.size + 1, 5, none⟩ = some (.int .i64 vn) ∧ z.cell? ⟨w.heap.size + 1, 6, none⟩ = some (.string vt))) #[false, false, false, false, false, false, false, false, false, false, false, false, false, false, false, false, false, false, false, false, false, false, false, false, false, false, false, false, false, false, false, false, false, false, false, false, false, false, true, true] #[true, true, true, true, true, true, true, true, true, true, true, true, true, true, true, true, true, true, true, true, true, true, true, true, true, true, true, true, true, true, true, true, true, true, true, true, true, true, false, false] [38, 39] 40 38 (by kernel_rfl) (by kernel_rfl) (by kernel_rfl) (by rfl) ?_ (fun hHeld => ?_)
                · exact hS
                first
                  | (refine wpAnyH_take (i := 0) (v := ?_) at0 (by kernel_rfl) (by kernel_rfl) (by kernel_rfl) (fun _ _ _ h => h) (Or.inl ⟨by rfl, ?_⟩) (by assumption) ?_
                     rotate_left
                     · intro w hSw; (try dsimp only at hSw); go_simp; try with_reducible rfl)
                  | fail "take 0"
                try simp only [Act.put, List.setIfInBounds_toArray, List.set_cons_zero, List.set_cons_succ]
                first
                  | (refine wpAnyH_take (i := 1) (v := ?_) at1 (by kernel_rfl) (by kernel_rfl) (by kernel_rfl) (fun _ _ _ h => h) (Or.inl ⟨by rfl, ?_⟩) (by assumption) ?_
                     rotate_left
                     · intro w hSw; (try dsimp only at hSw); go_simp; try with_reducible rfl)
                  | fail "take 1"
                try simp only [Act.put, List.setIfInBounds_toArray, List.set_cons_zero, List.set_cons_succ]
                first
                  | (refine wpAnyH_take (i := 2) (v := ?_) at2 (by kernel_rfl) (by kernel_rfl) (by kernel_rfl) (fun _ _ _ h => h) (Or.inl ⟨by rfl, ?_⟩) (by assumption) ?_
                     rotate_left
                     · intro w hSw; (try dsimp only at hSw); go_simp; try with_reducible rfl)
                  | fail "take 2"
                try simp only [Act.put, List.setIfInBounds_toArray, List.set_cons_zero, List.set_cons_succ]
                first
                  | (refine wpAnyH_take (i := 3) (v := ?_) at3 (by kernel_rfl) (by kernel_rfl) (by kernel_rfl) (fun _ _ _ h => h) (Or.inl ⟨by rfl, ?_⟩) (by assumption) ?_
                     rotate_left
                     · intro w hSw; (try dsimp only at hSw); go_simp; try with_reducible rfl)
                  | fail "take 3"
                try simp only [Act.put, List.setIfInBounds_toArray, List.set_cons_zero, List.set_cons_succ]
                first
                  | (refine wpAnyH_take (i := 4) (v := ?_) at4 (by kernel_rfl) (by kernel_rfl) (by kernel_rfl) (fun _ _ _ h => h) (Or.inl ⟨by rfl, ?_⟩) (by assumption) ?_
                     rotate_left
                     · intro w hSw; (try dsimp only at hSw); go_simp; try with_reducible rfl)
                  | fail "take 4"
                try simp only [Act.put, List.setIfInBounds_toArray, List.set_cons_zero, List.set_cons_succ]
                first
                  | (refine wpAnyH_take (i := 5) (v := ?_) at5 (by kernel_rfl) (by kernel_rfl) (by kernel_rfl) (fun _ _ _ h => h) (Or.inl ⟨by rfl, ?_⟩) (by assumption) ?_
                     rotate_left
                     · intro w hSw; (try dsimp only at hSw); go_simp; try with_reducible rfl)
                  | fail "take 5"
                try simp only [Act.put, List.setIfInBounds_toArray, List.set_cons_zero, List.set_cons_succ]
                refine wpAnyH_take (i := 6) (v := undef) at6 (by kernel_rfl) (by kernel_rfl) (by kernel_rfl) (fun _ _ _ h => h) (Or.inr ⟨by rfl, rfl⟩) (by assumption) ?_
                try simp only [Act.put, List.setIfInBounds_toArray, List.set_cons_zero, List.set_cons_succ]
                refine wpAnyH_take (i := 7) (v := undef) at7 (by kernel_rfl) (by kernel_rfl) (by kernel_rfl) (fun _ _ _ h => h) (Or.inr ⟨by rfl, rfl⟩) (by assumption) ?_
                try simp only [Act.put, List.setIfInBounds_toArray, List.set_cons_zero, List.set_cons_succ]
                refine wpAnyH_take (i := 8) (v := undef) at8 (by kernel_rfl) (by kernel_rfl) (by kernel_rfl) (fun _ _ _ h => h) (Or.inr ⟨by rfl, rfl⟩) (by assumption) ?_
                try simp only [Act.put, List.setIfInBounds_toArray, List.set_cons_zero, List.set_cons_succ]
                refine wpAnyH_take (i := 9) (v := undef) at9 (by kernel_rfl) (by kernel_rfl) (by kernel_rfl) (fun _ _ _ h => h) (Or.inr ⟨by rfl, rfl⟩) (by assumption) ?_
                try simp only [Act.put, List.setIfInBounds_toArray, List.set_cons_zero, List.set_cons_succ]
                refine wpAnyH_take (i := 10) (v := undef) at10 (by kernel_rfl) (by kernel_rfl) (by kernel_rfl) (fun _ _ _ h => h) (Or.inr ⟨by rfl, rfl⟩) (by assumption) ?_
                try simp only [Act.put, List.setIfInBounds_toArray, List.set_cons_zero, List.set_cons_succ]
                refine wpAnyH_take (i := 11) (v := undef) at11 (by kernel_rfl) (by kernel_rfl) (by kernel_rfl) (fun _ _ _ h => h) (Or.inr ⟨by rfl, rfl⟩) (by assumption) ?_
                try simp only [Act.put, List.setIfInBounds_toArray, List.set_cons_zero, List.set_cons_succ]
                refine wpAnyH_take (i := 12) (v := undef) at12 (by kernel_rfl) (by kernel_rfl) (by kernel_rfl) (fun _ _ _ h => h) (Or.inr ⟨by rfl, rfl⟩) (by assumption) ?_
                try simp only [Act.put, List.setIfInBounds_toArray, List.set_cons_zero, List.set_cons_succ]
                refine wpAnyH_take (i := 13) (v := undef) at13 (by kernel_rfl) (by kernel_rfl) (by kernel_rfl) (fun _ _ _ h => h) (Or.inr ⟨by rfl, rfl⟩) (by assumption) ?_
                try simp only [Act.put, List.setIfInBounds_toArray, List.set_cons_zero, List.set_cons_succ]
                refine wpAnyH_take (i := 14) (v := undef) at14 (by kernel_rfl) (by kernel_rfl) (by kernel_rfl) (fun _ _ _ h => h) (Or.inr ⟨by rfl, rfl⟩) (by assumption) ?_
                try simp only [Act.put, List.setIfInBounds_toArray, List.set_cons_zero, List.set_cons_succ]
                first
                  | (refine wpAnyH_take (i := 15) (v := ?_) at15 (by kernel_rfl) (by kernel_rfl) (by kernel_rfl) (fun _ _ _ h => h) (Or.inl ⟨by rfl, ?_⟩) (by assumption) ?_
                     rotate_left
                     · intro w hSw; (try dsimp only at hSw); go_simp; try with_reducible rfl)
                  | fail "take 15"
                try simp only [Act.put, List.setIfInBounds_toArray, List.set_cons_zero, List.set_cons_succ]
                first
                  | (refine wpAnyH_take (i := 16) (v := ?_) at16 (by kernel_rfl) (by kernel_rfl) (by kernel_rfl) (fun _ _ _ h => h) (Or.inl ⟨by rfl, ?_⟩) (by assumption) ?_
                     rotate_left
                     · intro w hSw; (try dsimp only at hSw); go_simp; try with_reducible rfl)
                  | fail "take 16"
                try simp only [Act.put, List.setIfInBounds_toArray, List.set_cons_zero, List.set_cons_succ]
                first
                  | (refine wpAnyH_take (i := 17) (v := ?_) at17 (by kernel_rfl) (by kernel_rfl) (by kernel_rfl) (fun _ _ _ h => h) (Or.inl ⟨by rfl, ?_⟩) (by assumption) ?_
                     rotate_left
                     · intro w hSw; (try dsimp only at hSw); go_simp; try with_reducible rfl)
                  | fail "take 17"
                try simp only [Act.put, List.setIfInBounds_toArray, List.set_cons_zero, List.set_cons_succ]
                first
                  | (refine wpAnyH_take (i := 18) (v := ?_) at18 (by kernel_rfl) (by kernel_rfl) (by kernel_rfl) (fun _ _ _ h => h) (Or.inl ⟨by rfl, ?_⟩) (by assumption) ?_
                     rotate_left
                     · intro w hSw; (try dsimp only at hSw); go_simp; try with_reducible rfl)
                  | fail "take 18"
                try simp only [Act.put, List.setIfInBounds_toArray, List.set_cons_zero, List.set_cons_succ]
                first
                  | (refine wpAnyH_take (i := 19) (v := ?_) at19 (by kernel_rfl) (by kernel_rfl) (by kernel_rfl) (fun _ _ _ h => h) (Or.inl ⟨by rfl, ?_⟩) (by assumption) ?_
                     rotate_left
                     · intro w hSw; (try dsimp only at hSw); go_simp; try with_reducible rfl)
                  | fail "take 19"
                try simp only [Act.put, List.setIfInBounds_toArray, List.set_cons_zero, List.set_cons_succ]
                first
                  | (refine wpAnyH_take (i := 20) (v := ?_) at20 (by kernel_rfl) (by kernel_rfl) (by kernel_rfl) (fun _ _ _ h => h) (Or.inl ⟨by rfl, ?_⟩) (by assumption) ?_
                     rotate_left
                     · intro w hSw; (try dsimp only at hSw); go_simp; try with_reducible rfl)
                  | fail "take 20"
                try simp only [Act.put, List.setIfInBounds_toArray, List.set_cons_zero, List.set_cons_succ]
                first
                  | (refine wpAnyH_take (i := 21) (v := ?_) at21 (by kernel_rfl) (by kernel_rfl) (by kernel_rfl) (fun _ _ _ h => h) (Or.inl ⟨by rfl, ?_⟩) (by assumption) ?_
                     rotate_left
                     · intro w hSw; (try dsimp only at hSw); go_simp; try with_reducible rfl)
                  | fail "take 21"
                try simp only [Act.put, List.setIfInBounds_toArray, List.set_cons_zero, List.set_cons_succ]
                first
                  | (refine wpAnyH_take (i := 22) (v := ?_) at22 (by kernel_rfl) (by kernel_rfl) (by kernel_rfl) (fun _ _ _ h => h) (Or.inl ⟨by rfl, ?_⟩) (by assumption) ?_
                     rotate_left
                     · intro w hSw; (try dsimp only at hSw); go_simp; try with_reducible rfl)
                  | fail "take 22"
                try simp only [Act.put, List.setIfInBounds_toArray, List.set_cons_zero, List.set_cons_succ]
                first
                  | (refine wpAnyH_take (i := 23) (v := ?_) at23 (by kernel_rfl) (by kernel_rfl) (by kernel_rfl) (fun _ _ _ h => h) (Or.inl ⟨by rfl, ?_⟩) (by assumption) ?_
                     rotate_left
                     · intro w hSw; (try dsimp only at hSw); go_simp; try with_reducible rfl)
                  | fail "take 23"
                try simp only [Act.put, List.setIfInBounds_toArray, List.set_cons_zero, List.set_cons_succ]
                first
                  | (refine wpAnyH_take (i := 24) (v := ?_) at24 (by kernel_rfl) (by kernel_rfl) (by kernel_rfl) (fun _ _ _ h => h) (Or.inl ⟨by rfl, ?_⟩) (by assumption) ?_
                     rotate_left
                     · intro w hSw; (try dsimp only at hSw); go_simp; try with_reducible rfl)
                  | fail "take 24"
                try simp only [Act.put, List.setIfInBounds_toArray, List.set_cons_zero, List.set_cons_succ]
                first
                  | (refine wpAnyH_take (i := 25) (v := ?_) at25 (by kernel_rfl) (by kernel_rfl) (by kernel_rfl) (fun _ _ _ h => h) (Or.inl ⟨by rfl, ?_⟩) (by assumption) ?_
                     rotate_left
                     · intro w hSw; (try dsimp only at hSw); go_simp; try with_reducible rfl)
                  | fail "take 25"
                try simp only [Act.put, List.setIfInBounds_toArray, List.set_cons_zero, List.set_cons_succ]
                first
                  | (refine wpAnyH_take (i := 26) (v := ?_) at26 (by kernel_rfl) (by kernel_rfl) (by kernel_rfl) (fun _ _ _ h => h) (Or.inl ⟨by rfl, ?_⟩) (by assumption) ?_
                     rotate_left
                     · intro w hSw; (try dsimp only at hSw); go_simp; try with_reducible rfl)
                  | fail "take 26"
                try simp only [Act.put, List.setIfInBounds_toArray, List.set_cons_zero, List.set_cons_succ]
                first
                  | (refine wpAnyH_take (i := 27) (v := ?_) at27 (by kernel_rfl) (by kernel_rfl) (by kernel_rfl) (fun _ _ _ h => h) (Or.inl ⟨by rfl, ?_⟩) (by assumption) ?_
                     rotate_left
                     · intro w hSw; (try dsimp only at hSw); go_simp; try with_reducible rfl)
                  | fail "take 27"
                try simp only [Act.put, List.setIfInBounds_toArray, List.set_cons_zero, List.set_cons_succ]
                first
                  | (refine wpAnyH_take (i := 28) (v := ?_) at28 (by kernel_rfl) (by kernel_rfl) (by kernel_rfl) (fun _ _ _ h => h) (Or.inl ⟨by rfl, ?_⟩) (by assumption) ?_
                     rotate_left
                     · intro w hSw; (try dsimp only at hSw); go_simp; try with_reducible rfl)
                  | fail "take 28"
                try simp only [Act.put, List.setIfInBounds_toArray, List.set_cons_zero, List.set_cons_succ]
                first
                  | (refine wpAnyH_take (i := 29) (v := ?_) at29 (by kernel_rfl) (by kernel_rfl) (by kernel_rfl) (fun _ _ _ h => h) (Or.inl ⟨by rfl, ?_⟩) (by assumption) ?_
                     rotate_left
                     · intro w hSw; (try dsimp only at hSw); go_simp; try with_reducible rfl)
                  | fail "take 29"
                try simp only [Act.put, List.setIfInBounds_toArray, List.set_cons_zero, List.set_cons_succ]
                first
                  | (refine wpAnyH_take (i := 30) (v := ?_) at30 (by kernel_rfl) (by kernel_rfl) (by kernel_rfl) (fun _ _ _ h => h) (Or.inl ⟨by rfl, ?_⟩) (by assumption) ?_
                     rotate_left
                     · intro w hSw; (try dsimp only at hSw); go_simp; try with_reducible rfl)
                  | fail "take 30"
                try simp only [Act.put, List.setIfInBounds_toArray, List.set_cons_zero, List.set_cons_succ]
                first
                  | (refine wpAnyH_take (i := 32) (v := ?_) at32 (by kernel_rfl) (by kernel_rfl) (by kernel_rfl) (fun _ _ _ h => h) (Or.inl ⟨by rfl, ?_⟩) (by assumption) ?_
                     rotate_left
                     · intro w hSw; (try dsimp only at hSw); go_simp; try with_reducible rfl)
                  | fail "take 32"
                try simp only [Act.put, List.setIfInBounds_toArray, List.set_cons_zero, List.set_cons_succ]
                first
                  | (refine wpAnyH_take (i := 33) (v := ?_) at33 (by kernel_rfl) (by kernel_rfl) (by kernel_rfl) (fun _ _ _ h => h) (Or.inl ⟨by rfl, ?_⟩) (by assumption) ?_
                     rotate_left
                     · intro w hSw; (try dsimp only at hSw); go_simp; try with_reducible rfl)
                  | fail "take 33"
                try simp only [Act.put, List.setIfInBounds_toArray, List.set_cons_zero, List.set_cons_succ]
                first
                  | (refine wpAnyH_take (i := 34) (v := ?_) at34 (by kernel_rfl) (by kernel_rfl) (by kernel_rfl) (fun _ _ _ h => h) (Or.inl ⟨by rfl, ?_⟩) (by assumption) ?_
                     rotate_left
                     · intro w hSw; (try dsimp only at hSw); go_simp; try with_reducible rfl)
                  | fail "take 34"
                try simp only [Act.put, List.setIfInBounds_toArray, List.set_cons_zero, List.set_cons_succ]
                first
                  | (refine wpAnyH_take (i := 35) (v := ?_) at35 (by kernel_rfl) (by kernel_rfl) (by kernel_rfl) (fun _ _ _ h => h) (Or.inl ⟨by rfl, ?_⟩) (by assumption) ?_
                     rotate_left
                     · intro w hSw; (try dsimp only at hSw); go_simp; try with_reducible rfl)
                  | fail "take 35"
                try simp only [Act.put, List.setIfInBounds_toArray, List.set_cons_zero, List.set_cons_succ]
                first
                  | (refine wpAnyH_take (i := 36) (v := ?_) at36 (by kernel_rfl) (by kernel_rfl) (by kernel_rfl) (fun _ _ _ h => h) (Or.inl ⟨by rfl, ?_⟩) (by assumption) ?_
                     rotate_left
                     · intro w hSw; (try dsimp only at hSw); go_simp; try with_reducible rfl)
                  | fail "take 36"
                try simp only [Act.put, List.setIfInBounds_toArray, List.set_cons_zero, List.set_cons_succ]
                refine wpAnyH_ready (rs := [31]) (by kernel_rfl) (by simp) ?_
                refine AllReadyH.cons (i := 31) at31 (fun K hK => ?_) AllReadyH.nil
                go_simp
                refine (hgv.out _ kk.out).mono ?_
                rintro e y8 ⟨rfl, hBz⟩
                have kk := hidden (kk.out.trans (hBz.mono kk.out.size))
                have hSn := hcr.out y8 kk.out
                refine hK.out _ _ ?_ (fun hNew => ?_)
                · exact hSn
                clear hK K hHeld
                have hHeld := hNew
                clear hNew
                try simp only [List.setIfInBounds_toArray, List.set_cons_zero, List.set_cons_succ]
                refine wpAnyH_ready (rs := [37]) (by kernel_rfl) (by simp) ?_
                refine AllReadyH.cons (i := 37) at37 (fun K hK => ?_) AllReadyH.nil
                go_simp
                refine (rgetOut_c _ _ _ _ _ _ _ _ _ hoh.out).mono ?_
                rintro e y9 ⟨rfl, hBz⟩
                have kk := hidden (kk.out.trans (hBz.mono kk.out.size))
                have hSn := hcr.out y9 kk.out
                refine hK.out _ _ ?_ (fun hNew => ?_)
                · exact hSn
                clear hK K hHeld
                have hHeld := hNew
                clear hNew
                try simp only [List.setIfInBounds_toArray, List.set_cons_zero, List.set_cons_succ]
                refine tail_list (is := [38, 39]) (l := _) (by kernel_rfl) (by kernel_rfl) (by kernel_rfl) rfl ?_
                simp only [List.filterMap_cons, List.filterMap_nil, at38, at39]
                show wpList _ _ _ (_ :: _) _ _
                go_wp2_with fail
                clear hS hSn hHeld hcr hgv hq
                have ky : Hid (Below y.heap.size y y9) := hidden (k4.out.trans (kk.out.mono k4.out.size))
                replace hCs := hidden (hCs.out.step kk.out)
                have hav := hallC.out _ y9 hCs.out
                clear kk k4
                go_wp2_with fail
                refine hav.mono ?_
                rintro e r5 ⟨aa, ac, rfl, hra, hD⟩
                have k5 : Hid (Below y.heap.size y r5) := hidden (ky.out.trans (hD.mono ky.out.size))
                replace hCs := hidden (hCs.out.step hD)
                replace hra := hidden hra
                clear hav hD ky hallC
                go_wp2_with fail
                go_loopw [13] (fun i wr => ∃ j : Nat, j ≤ n ∧ i = .int .i64 j ∧ Hid (Below r5.heap.size r5 wr))
                  (fun i _ => n - (intOf i).toNat)
                case atStart => exact ⟨0, Nat.zero_le _, rfl, hidden (Below.refl _ _)⟩
                case round =>
                  obtain ⟨j, hj, rfl, hnx⟩ := hrel
                  by_cases hlt : j < n
                  · have hlt' : (j : Int) < (n : Int) := by omega
                    obtain ⟨ab, ao, rfl, -, f0⟩ := all_at (hra.out.below hnx.out) hlt
                    have hjj : ((j : Int) != (j : Int)) = false := by simp
                    go_wp2
                    go_roundw
                    case rel => exact ⟨j + 1, by omega, by go_num, hnx⟩
                    case measure => simp [intOf]; omega
                  · have hlt' : ¬ (j : Int) < (n : Int) := by omega
                    have ky : Hid (Below y.heap.size y wr) := hidden (k5.out.trans (hnx.out.mono k5.out.size))
                    have oC := hidden (hCs.out.step hnx.out.drew)
                    have kk : Hid (Below y.heap.size y wr.drew) := hidden ky.out.drew
                    have hS := hcz.out _ kk.out
                    have hnn : ((n : Int) != (n : Int)) = false := by simp
                    clear hra hnx ky k5 hCs hj hlt
                    go_wp2_with fail
                    clear hlt'
                    go_region_held3 (fun z => z.cell? ⟨w.heap.size, 0, none⟩ = some (.slice a n c) ∧ z.cell? ⟨w.heap.size, 1, none⟩ = some (.slice b m d) ∧ z.cell? ⟨w.heap.size + 1, 0, none⟩ = some (.int .i64 q0) ∧ z.cell? ⟨w.heap.size + 1, 1, none⟩ = some (.string q1) ∧ z.cell? ⟨w.heap.size + 1, 2, none⟩ = some (.string q2) ∧ z.cell? ⟨w.heap.size + 1, 3, none⟩ = some (.int .i64 q3) ∧ z.cell? ⟨w.heap.size + 1, 4, none⟩ = some (.int .i64 vk) ∧ z.cell? ⟨w.heap.size + 1, 5, none⟩ = some (.int .i64 vn) ∧ z.cell? ⟨w.heap.size + 1, 6, none⟩ = some (.string vt)) (first | exact hS | go_keep) (first
                      | (go_at_call 18; refine (hcwC.out _ _ oC.out).mono ?_; rintro e y9 ⟨ax, cx, rfl, hU, hBz⟩
                         have kk := hidden (kk.out.trans (hBz.mono kk.out.size))
                         have hS := hcz.out y9 kk.out
                         have oC := hidden (oC.out.step hBz)
                         have oA := hidden (natH (holdsR_of_owns (R := natR) hU))
                         have oL := hlW)
                      | (go_at_call 19; refine (hrw.out _ kk.out).mono ?_; rintro e y9 ⟨v2, rfl, hU, hBz⟩
                         have kk := hidden (kk.out.trans (hBz.mono kk.out.size))
                         have hS := hcz.out y9 kk.out
                         have oC := hidden (oC.out.step hBz)
                         have oA := hidden (oA.out.below hBz)
                         have oB := hidden (natH (holdsR_of_owns (R := natR) hU)))
                      | (go_at_call 20; refine (hctC.out _ _ oC.out).mono ?_; rintro e y9 ⟨v1, rfl, hU, hBz⟩
                         have kk := hidden (kk.out.trans (hBz.mono kk.out.size))
                         have hS := hcz.out y9 kk.out
                         have oC := hidden (oC.out.step hBz)
                         have oA := hidden (natH (holdsR_of_owns (R := natR) hU))
                         have oL := hlO)
                      | (go_at_call 21; refine (hrto.out _ kk.out).mono ?_; rintro e y9 ⟨v2, rfl, hU, hBz⟩
                         have kk := hidden (kk.out.trans (hBz.mono kk.out.size))
                         have hS := hcz.out y9 kk.out
                         have oC := hidden (oC.out.step hBz)
                         have oA := hidden (oA.out.below hBz)
                         have oB := hidden (natH hU))
                      | (go_at_call 17; refine (same_self _ _ _ _ oA.out oB.out (by have := oL.out; rw [List.length_map]; omega)).mono ?_; rintro e y9 ⟨rfl, hBz⟩
                         have kk := hidden (kk.out.trans (hBz.mono kk.out.size))
                         have hS := hcz.out y9 kk.out
                         have oC := hidden (oC.out.step hBz))
                      | fail)
                    have oC2 := hidden (oC.out.step (Below.refl _ _).drew)
                    have kk2 : Hid (Below y.heap.size y y9.drew) := hidden kk.out.drew
                    clear oC oA oB oL kk hS
                    have hS := hcz.out _ kk2.out
                    have kk := kk2
                    have oC := oC2
                    clear kk2 oC2
                    go_wp2_with fail
                    go_region_held3 (fun z => z.cell? ⟨w.heap.size, 0, none⟩ = some (.slice a n c) ∧ z.cell? ⟨w.heap.size, 1, none⟩ = some (.slice b m d) ∧ z.cell? ⟨w.heap.size + 1, 0, none⟩ = some (.int .i64 q0) ∧ z.cell? ⟨w.heap.size + 1, 1, none⟩ = some (.string q1) ∧ z.cell? ⟨w.heap.size + 1, 2, none⟩ = some (.string q2) ∧ z.cell? ⟨w.heap.size + 1, 3, none⟩ = some (.int .i64 q3) ∧ z.cell? ⟨w.heap.size + 1, 4, none⟩ = some (.int .i64 vk) ∧ z.cell? ⟨w.heap.size + 1, 5, none⟩ = some (.int .i64 vn) ∧ z.cell? ⟨w.heap.size + 1, 6, none⟩ = some (.string vt)) (first | exact hS | go_keep) (first
                      | (go_at_call 22; refine (hchC.out _ _ oC.out).mono ?_; rintro e y9 ⟨v1, rfl, hU, hBz⟩
                         have kk := hidden (kk.out.trans (hBz.mono kk.out.size))
                         have hS := hcz.out y9 kk.out
                         have oC := hidden (oC.out.step hBz)
                         have oA := hidden (natH (holdsR_of_owns (R := natR) hU))
                         have oL := hlT)
                      | (go_at_call 21; refine (hrt.out _ kk.out).mono ?_; rintro e y9 ⟨v2, rfl, hU, hBz⟩
                         have kk := hidden (kk.out.trans (hBz.mono kk.out.size))
                         have hS := hcz.out y9 kk.out
                         have oC := hidden (oC.out.step hBz)
                         have oA := hidden (oA.out.below hBz)
                         have oB := hidden (natH hU))
                      | (go_at_call 17; refine (same_self _ _ _ _ oA.out oB.out (by have := oL.out; rw [List.length_map]; omega)).mono ?_; rintro e y9 ⟨rfl, hBz⟩
                         have kk := hidden (kk.out.trans (hBz.mono kk.out.size))
                         have hS := hcz.out y9 kk.out
                         have oC := hidden (oC.out.step hBz))
                      | (go_at_call 24; refine (hcvC.out _ _ oC.out).mono ?_; rintro e y9 ⟨az, cz, rfl, hU, hBz⟩
                         have kk := hidden (kk.out.trans (hBz.mono kk.out.size))
                         have hS := hcz.out y9 kk.out
                         have oC := hidden (oC.out.step hBz)
                         have oV := hidden (rowV hU))
                      | (go_at_call 25; refine (hrv.out _ kk.out).mono ?_; rintro e y9 ⟨av, cv, rfl, hU, hBz⟩
                         have kk := hidden (kk.out.trans (hBz.mono kk.out.size))
                         have hS := hcz.out y9 kk.out
                         have oV := hidden (oV.out.below hBz)
                         have oU := hidden hU)
                      | (go_at_call 23; refine (samev_c R _ _ _ _ _ oV.out oU.out (by omega)).mono ?_; rintro e y9 ⟨rfl, hBz⟩
                         have kk := hidden (kk.out.trans (hBz.mono kk.out.size))
                         have hS := hcz.out y9 kk.out
                         have hcwm := GoX.Calm.of_below (hC2.out.trans (kk.out.mono hC2.out.size)))
                      | (go_at_call 12; refine (hlv.out _ hcwm).mono ?_; rintro e y9 ⟨rfl, hBz⟩
                         have hfin : Hid (GoX.Calm w y9) := hidden (hcwm.trans hBz)
                         obtain ⟨e0, e1, e2, e3, e4, e5, e6, e7, e8⟩ := hS
                         have hS := And.intro (cell_calm hBz e0) (And.intro (cell_calm hBz e1) (And.intro (cell_calm hBz e2) (And.intro (cell_calm hBz e3) (And.intro (cell_calm hBz e4) (And.intro (cell_calm hBz e5) (And.intro (cell_calm hBz e6) (And.intro (cell_calm hBz e7) (cell_calm hBz e8)))))))))
                      | fail)
                    go_wp2
                    go_ret
                    exact ⟨by first | done | rfl | simp, hfin.out⟩
          · have h2 := colBad_c g us a3 n3 c3 b3 m3 d3 r2 hU hsm.out hok
            clear hU
            have g2 : ((checkG g).2 != 0) = true := by simp [hok]
            have g4 : ((checkG g).2 == (checkG g).2) = true := by simp
            replace hok := hidden hok
            go_wp2_with fail
            refine h2.mono ?_
            rintro e r3 ⟨rfl, hD⟩
            have k3 : Hid (Below y.heap.size y r3) := hidden (k2.out.trans (hD.mono k2.out.size))
            obtain ⟨b0, b1, -⟩ := hcz.out r3 k3.out
            have h3 := hchk.out r3 k3.out
            clear hch hcv hcto
            generalize (checkG g).2 = q at *
            clear hD k2 h2
            go_wp2_with fail
            refine h3.mono ?_
            rintro e r4 ⟨rfl, hD⟩
            have k5 : Hid (Below w.heap.size w r4) := hidden (hC2.out.trans ((k3.out.trans (hD.mono k3.out.size)).mono hC2.out.size))
            have h6 := hlv.out r4 (.of_below k5.out)
            clear hD k3 h3 b0 b1 hlv
            go_wp2_with fail
            refine h6.mono ?_
            rintro e r9 ⟨rfl, hD⟩
            have hfin : Hid (GoX.Calm w r9) := GoX.Calm.trans (.of_below k5.out) hD
            clear hD h6 k5
            go_wp2
            go_ret
            exact ⟨by first | done | rfl | simp, hfin.out⟩
        exact AllReadyH.nil
      exact AllReadyH.nil
    exact AllReadyH.nil
  exact AllReadyH.nil
end Go.Proofs.Ytnmjhbnadfjapaa
