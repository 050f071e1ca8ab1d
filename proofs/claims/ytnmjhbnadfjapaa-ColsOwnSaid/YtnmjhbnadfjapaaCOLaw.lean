/-
  THE LAW ColsOwn, with lives() as a premise.
-/
import Derived.Test.YtnmjhbnadfjapaaCLaws
import Derived.Test.YtnmjhbnadfjapaaColNew
namespace Go.Proofs.Ytnmjhbnadfjapaa
open Go.ChangeShapes Go.WideShapes Go.ChangeAt Go.RowKit Go.Maps

set_option maxHeartbeats 16000000 in
set_option maxRecDepth 100000 in
theorem lawCO_c (H : Gr) (nv ev : Value) (q0 : Int) (q1 q2 : ByteArray) (q3 vk vn : Int) (v0 : ByteArray) (w : World) (hG : HoldsG w nv ev H) (hw : H.wf) (h1 : q1.size ≤ maxLen) (h2 : q2.size ≤ maxLen) (hlv : ∀ x, GoX.Calm w x → Calls Try.prog 12 #[] x fun e w' => e = .returned (.bool true) ∧ GoX.Calm x w') :
    Calls Try.prog 4 #[.agg #[nv, ev], .agg #[.int .i64 q0, .string q1, .string q2, .int .i64 q3, .int .i64 vk, .int .i64 vn, .string v0]] w fun e w' => e = .returned (.bool true) ∧ GoX.Calm w w' := by
  have hs1 := hidden h1
  have hs2 := hidden h2
  clear h1 h2
  obtain ⟨w1', w2', w3', w4'⟩ := hw
  unfold maxLen at w1' w3'
  obtain ⟨ga, gc, rfl⟩ := hG.1.slice
  obtain ⟨ha, hc, rfl, -⟩ := id hG.2
  obtain ⟨wb, hwb⟩ : ∃ wb, wb = (w.alloc (.cells #[.slice ga H.ns.length gc, .slice ha H.es.length hc] 25)).alloc (.cells #[.int .i64 q0, .string q1, .string q2, .int .i64 q3, .int .i64 vk, .int .i64 vn, .string v0] 29) := ⟨_, rfl⟩
  have hz1 : (w.alloc (.cells #[.slice ga H.ns.length gc, .slice ha H.es.length hc] 25)).heap.size = w.heap.size + 1 := by simp
  have hB0 : Hid (Below w.heap.size w wb) := by rw [hwb]; exact ((Below.refl _ _).alloc (Nat.le_refl _) _).alloc (by rw [hz1]; omega) _
  have hX0 : Hid (wb.heap[w.heap.size]? = some (.cells #[.slice ga H.ns.length gc, .slice ha H.es.length hc] 25)) := by
    rw [hwb]
    exact (heap_alloc_old _ _ (by rw [hz1]; omega)).trans (heap_alloc_new w _)
  have hX1 : Hid (wb.heap[w.heap.size + 1]? = some (.cells #[.int .i64 q0, .string q1, .string q2, .int .i64 q3, .int .i64 vk, .int .i64 vn, .string v0] 29)) := by
    rw [hwb]
    have h := heap_alloc_new (w.alloc (.cells #[.slice ga H.ns.length gc, .slice ha H.es.length hc] 25)) (.cells #[.int .i64 q0, .string q1, .string q2, .int .i64 q3, .int .i64 vk, .int .i64 vn, .string v0] 29)
    rw [hz1] at h
    exact h
  have hf0 := hidden (gfew_c H _ _ wb.drew (hG.below (hB0.out.drew)) (by omega) (by omega) (fun x hx => by have := (w2' x hx).1; unfold maxLen at this; omega))
  have hff := hidden (Gr.few_few H)
  have hsm := hidden (Gr.few_sm H)
  have hvf := hidden fun z => vfew_c vk vn v0 z
  generalize cutB v0 120 = vt at *
  generalize H.few = g at *
  generalize H.ns.length = NL at *
  generalize H.es.length = EL at *
  replace hlv := hidden hlv
  clear hG w1' w2' w3' w4' hz1
  have hSo : Hid (∀ z, Below wb.heap.size wb z → z.cell? ⟨w.heap.size, 0, none⟩ = some (.slice ga NL gc) ∧ z.cell? ⟨w.heap.size, 1, none⟩ = some (.slice ha EL hc) ∧ z.cell? ⟨w.heap.size + 1, 0, none⟩ = some (.int .i64 q0) ∧ z.cell? ⟨w.heap.size + 1, 1, none⟩ = some (.string q1) ∧ z.cell? ⟨w.heap.size + 1, 2, none⟩ = some (.string q2) ∧ z.cell? ⟨w.heap.size + 1, 3, none⟩ = some (.int .i64 q3) ∧ z.cell? ⟨w.heap.size + 1, 4, none⟩ = some (.int .i64 vk) ∧ z.cell? ⟨w.heap.size + 1, 5, none⟩ = some (.int .i64 vn) ∧ z.cell? ⟨w.heap.size + 1, 6, none⟩ = some (.string v0)) := hidden fun z h => by
    obtain ⟨⟨p0, p1⟩, -⟩ := box2f (box_below hX0.out h)
    exact ⟨p0, p1, box7u (box_below hX1.out h)⟩
  have hS0 := hSo.out wb.drew (Below.refl _ _).drew
  go_enter Try.func4, Try.ntmps4
  go_wp2_with fail
  rw [← hwb]
  replace hwb := hidden hwb
  go_wp2_with fail
  refine wp_region_parts (S := (fun z => z.cell? ⟨w.heap.size, 0, none⟩ = some (.slice ga NL gc) ∧ z.cell? ⟨w.heap.size, 1, none⟩ = some (.slice ha EL hc) ∧ z.cell? ⟨w.heap.size + 1, 0, none⟩ = some (.int .i64 q0) ∧ z.cell? ⟨w.heap.size + 1, 1, none⟩ = some (.string q1) ∧ z.cell? ⟨w.heap.size + 1, 2, none⟩ = some (.string q2) ∧ z.cell? ⟨w.heap.size + 1, 3, none⟩ = some (.int .i64 q3) ∧ z.cell? ⟨w.heap.size + 1, 4, none⟩ = some (.int .i64 vk) ∧ z.cell? ⟨w.heap.size + 1, 5, none⟩ = some (.int .i64 vn) ∧ z.cell? ⟨w.heap.size + 1, 6, none⟩ = some (.string v0))) #[false, false, false, false, false, true, true, true] #[true, true, true, true, true, false, false, false] [5, 6, 7] 40 5 (by kernel_rfl) (by kernel_rfl) (by kernel_rfl) (by rfl) ?_ (fun hHeld => ?_)
  · exact hS0
  first
    | (refine wpAnyH_take (i := 0) (v := ?_) at0 (by kernel_rfl) (by kernel_rfl) (by kernel_rfl) (fun _ _ _ h => h) (Or.inl ⟨by rfl, ?_⟩) (by assumption) ?_
       rotate_left
       · intro w hSw; (try dsimp only at hSw); go_simp; try with_reducible rfl)
    | fail "take 0"
  try simp only [Act.put, List.setIfInBounds_toArray, List.set_cons_zero, List.set_cons_succ]
  first
    | (refine wpAnyH_take (i := 2) (v := ?_) at2 (by kernel_rfl) (by kernel_rfl) (by kernel_rfl) (fun _ _ _ h => h) (Or.inl ⟨by rfl, ?_⟩) (by assumption) ?_
       rotate_left
       · intro w hSw; (try dsimp only at hSw); go_simp; try with_reducible rfl)
    | fail "take 2"
  try simp only [Act.put, List.setIfInBounds_toArray, List.set_cons_zero, List.set_cons_succ]
  first
    | (refine wpAnyH_take (i := 3) (v := ?_) at3 (by kernel_rfl) (by kernel_rfl) (by kernel_rfl) (fun _ _ _ h => h) (Or.inl ⟨by rfl, ?_⟩) (by assumption) ?_
       rotate_left
       · intro w hSw; (try dsimp only at hSw); go_simp; try with_reducible rfl)
    | fail "take 3"
  try simp only [Act.put, List.setIfInBounds_toArray, List.set_cons_zero, List.set_cons_succ]
  refine wpAnyH_ready (rs := [1]) (by kernel_rfl) (by simp) ?_
  refine AllReadyH.cons (i := 1) at1 (fun K hK => ?_) ?_
  · go_simp
    refine (hf0.out).mono ?_
    rintro e u1 ⟨vs, a, n, c, b, m, d, rfl, hN, hE, hBz⟩
    have kA := hidden ((Below.refl wb.heap.size wb).drew.trans hBz)
    have hSn := hSo.out u1 kA.out
    have hO1 : Hid (OwnG g vs a n c b m d u1) := hidden ⟨hN, hE⟩
    clear hN hE hBz
    refine hK.out _ _ ?_ (fun hNew => ?_)
    · exact hSn
    clear hK K hHeld
    have hHeld := hNew
    clear hNew
    try simp only [List.setIfInBounds_toArray, List.set_cons_zero, List.set_cons_succ]
    refine wpAnyH_ready (rs := [4]) (by kernel_rfl) (by simp) ?_
    refine AllReadyH.cons (i := 4) at4 (fun K hK => ?_) ?_
    · go_simp
      refine (hvf.out _).mono ?_
      rintro e u3 ⟨rfl, hBz⟩
      have kB := hidden (kA.out.trans (hBz.mono kA.out.size))
      have hSn := hSo.out u3 kB.out
      have hO3 := hidden (hO1.out.below hBz)
      refine hK.out _ _ ?_ (fun hNew => ?_)
      · exact hSn
      clear hK K hHeld
      have hHeld := hNew
      clear hNew
      try simp only [List.setIfInBounds_toArray, List.set_cons_zero, List.set_cons_succ]
      refine tail_list (is := [5, 6, 7]) (l := _) (by kernel_rfl) (by kernel_rfl) (by kernel_rfl) rfl ?_
      simp only [List.filterMap_cons, List.filterMap_nil, at5, at6, at7]
      show wpList _ _ _ (_ :: _) _ _
      have hg5 := box_below hX0.out kB.out
      have ha5 := box_below hX1.out kB.out
      obtain ⟨fg0, fg1⟩ := frz2 hg5
      obtain ⟨fq0, fq1, fq2, fq3, fq4, fq5, fq6⟩ := frz7 ha5
      have hO6 := (hO3.out.set hg5 0 (.slice a n c)).set (set_heap hg5 0 (.slice a n c)) 1 (.slice b m d)
      have hg6 := set_heap (set_heap hg5 0 (.slice a n c)) 1 (.slice b m d)
      have ha6 := set_oth (set_oth ha5 (show w.heap.size ≠ w.heap.size + 1 by omega) 0 (.slice a n c)) (show w.heap.size ≠ w.heap.size + 1 by omega) 1 (.slice b m d)
      have hO7 := hidden (((ownA_set hO6 ha6 4 (.int .i64 vk)) |> fun h => ownA_set h (set_heap ha6 4 (.int .i64 vk)) 5 (.int .i64 vn)) |> fun h => ownA_set h (set_heap (set_heap ha6 4 (.int .i64 vk)) 5 (.int .i64 vn)) 6 (.string vt))
      have hXg := hidden (set_oth (set_oth (set_oth hg6 (show w.heap.size + 1 ≠ w.heap.size by omega) 4 (.int .i64 vk)) (show w.heap.size + 1 ≠ w.heap.size by omega) 5 (.int .i64 vn)) (show w.heap.size + 1 ≠ w.heap.size by omega) 6 (.string vt))
      have hXq := hidden (set_heap (set_heap (set_heap ha6 4 (.int .i64 vk)) 5 (.int .i64 vn)) 6 (.string vt))
      have hC6 := ((hB0.out.trans (kB.out.mono hB0.out.size)).setCell (p := ⟨w.heap.size, 0, none⟩) (Nat.le_refl _) (.slice a n c)).setCell (p := ⟨w.heap.size, 1, none⟩) (Nat.le_refl _) (.slice b m d)
      have hC2 := hidden (((hC6.setCell (p := ⟨w.heap.size + 1, 4, none⟩) (Nat.le_succ _) (.int .i64 vk)).setCell (p := ⟨w.heap.size + 1, 5, none⟩) (Nat.le_succ _) (.int .i64 vn)).setCell (p := ⟨w.heap.size + 1, 6, none⟩) (Nat.le_succ _) (.string vt))
      clear hO6 hg6 ha6 hC6 hg5 ha5
      go_wp2_with fail
      skip
      clear fg0 fg1 fq0 fq1 fq2 fq3 fq4 fq5 fq6 hSn hSo hHeld hf0 hvf hX0 hX1 kA kB hO1 hO3 hB0
      generalize hwy : ((((u3.setCell ⟨w.heap.size, 0, none⟩ (.slice a n c)).setCell ⟨w.heap.size, 1, none⟩ (.slice b m d)).setCell ⟨w.heap.size + 1, 4, none⟩ (.int .i64 vk)).setCell ⟨w.heap.size + 1, 5, none⟩ (.int .i64 vn)).setCell ⟨w.heap.size + 1, 6, none⟩ (.string vt) = y at *
      clear hwy
      simp only [List.setIfInBounds_toArray, List.set_cons_zero, List.set_cons_succ] at hXg hXq
      clear hS0 hwb
      obtain ⟨hgn, -⟩ := hO7.out.len
      have hN0 : g.ns.length ≤ 1000 := hsm.out.1
      have hn0 : n ≤ 1000 := by omega
      have hps : Hid (∀ i, (g.ns.getD i Nd.none).ps.length ≤ 1000) := hidden fun i => by
        by_cases hi : i < g.ns.length
        · exact (hsm.out.2.1 _ (getD_memG (d := Nd.none) hi)).2.1
        · simp [List.getD, List.getElem?_eq_none (Nat.le_of_not_lt hi), Nd.none]
      have hfew : Hid (∀ z, Below y.heap.size y z → Calls Try.prog 7 #[.agg #[.slice a n c, .slice b m d]] z fun e w' => ∃ (us : List NdV) (a' : Option Addr) (n' c' : Nat) (b' : Option Addr) (m' d' : Nat), e = .returned (.agg #[.slice a' n' c', .slice b' m' d']) ∧ OwnG g us a' n' c' b' m' d' w' ∧ Below z.heap.size z w') := hidden fun z h => few_b g vs a n c b m d z (hO7.out.below h) hff.out hsm.out
      have hgood : Hid (∀ z, Below y.heap.size y z → Calls Try.prog 26 #[.agg #[.slice a n c, .slice b m d]] z fun e w' => e = .returned (.bool ((checkG g).2 == 0)) ∧ Below z.heap.size z w') := hidden fun z h => rggood_c g vs a n c b m d z (hO7.out.below h) hsm.out
      obtain ⟨R, hR⟩ := tells_ex g.ns q2 g.ns.length
      have hRl : R.length ≤ 1000 := Nat.le_trans hR.2.1 hN0
      have hrv : Hid (∀ z, Below y.heap.size y z → Calls Try.prog 25 #[.agg #[.slice a n c, .slice b m d], .string q2] z fun e w' => ∃ a' c', e = .returned (.slice a' R.length c') ∧ RowAt w' a' (valR.flat R) ∧ Below z.heap.size z w') := hidden fun z h => rvals_c g vs a n c b m d q2 R hR z (hO7.out.below h) hsm.out
      have hrt : Hid (∀ z, Below y.heap.size y z → Calls Try.prog 21 #[.agg #[.slice a n c, .slice b m d], .string q2, .int .i64 1, .agg #[.int .i64 vk, .int .i64 vn, .string vt]] z fun e w' => ∃ v, e = .returned v ∧ HoldsR natR w' v (bothN g.ns [⟨q2, 1, vk, vn, vt⟩] g.ns.length) ∧ Below z.heap.size z w') := hidden fun z h => rtest8_c g vs a n c b m d ⟨q2, 1, vk, vn, vt⟩ z (hO7.out.below h) hsm.out
      have hrw : Hid (∀ z, Below y.heap.size y z → Calls Try.prog 19 #[.agg #[.slice a n c, .slice b m d], .string q1] z fun e w' => ∃ v, e = .returned v ∧ w'.ownsRow z.heap.size 3 1 v (labN g.ns g.ns.length q1).length (natR.flat (labN g.ns g.ns.length q1)) ∧ Below z.heap.size z w') := hidden fun z h => rwith_c g vs a n c b m d q1 z (hO7.out.below h) hsm.out
      have hcw : Hid (∀ C B z, ColAt g.ns C B z → Calls Try.prog 18 #[.pointer (some ⟨C.gb, 0, none⟩), .string q1] z fun e w' => ∃ a' c', e = .returned (.slice a' (labN g.ns g.ns.length q1).length c') ∧ w'.ownsRow z.heap.size 3 1 (.slice a' (labN g.ns g.ns.length q1).length c') (labN g.ns g.ns.length q1).length (natR.flat (labN g.ns g.ns.length q1)) ∧ Below z.heap.size z w') := hidden fun C B z hC => by
        have h := colwith_c g.ns C B q1 z hC hs1.out hN0
        rw [← labN_F, natI, List.length_map] at h
        exact h
      have hch : Hid ((checkG g).2 = 0 → ∀ C B z, ColAt g.ns C B z → Calls Try.prog 22 #[.pointer (some ⟨C.gb, 0, none⟩), .string q2, .agg #[.int .i64 vk, .int .i64 vn, .string vt]] z fun e w' => ∃ v, e = .returned v ∧ w'.ownsRow z.heap.size 3 1 v (bothN g.ns [⟨q2, 1, vk, vn, vt⟩] g.ns.length).length (natR.flat (bothN g.ns [⟨q2, 1, vk, vn, vt⟩] g.ns.length)) ∧ Below z.heap.size z w') := hidden fun hg C B z hC => by
        have h := having_c g.ns C B q2 vk vn vt z hC hs2.out hN0 hps.out
        have e := colT_is hg ⟨q2, 1, vk, vn, vt⟩
        simp only at e
        rw [e, natI, List.length_map] at h
        exact h
      have hcv : Hid ((checkG g).2 = 0 → ∀ C B z, ColAt g.ns C B z → Calls Try.prog 24 #[.pointer (some ⟨C.gb, 0, none⟩), .string q2] z fun e w' => ∃ a cap, e = .returned (.slice a R.length cap) ∧ (R = [] ∨ ∃ gb, a = some ⟨gb, 0, none⟩ ∧ RS w' gb R ∧ z.heap.size ≤ gb) ∧ Below z.heap.size z w') := hidden fun hg C B z hC => colvals_c g hg hsm.out C B q2 R hR z hC hs2.out
      have hlW := hidden (Nat.le_trans (labN_len g.ns g.ns.length q1) hN0)
      have hlT := hidden (Nat.le_trans (bothN_len g.ns [⟨q2, 1, vk, vn, vt⟩] g.ns.length) hN0)
      have hcz : Hid (∀ z, Below y.heap.size y z → z.cell? ⟨w.heap.size, 0, none⟩ = some (.slice a n c) ∧ z.cell? ⟨w.heap.size, 1, none⟩ = some (.slice b m d) ∧ z.cell? ⟨w.heap.size + 1, 0, none⟩ = some (.int .i64 q0) ∧ z.cell? ⟨w.heap.size + 1, 1, none⟩ = some (.string q1) ∧ z.cell? ⟨w.heap.size + 1, 2, none⟩ = some (.string q2) ∧ z.cell? ⟨w.heap.size + 1, 3, none⟩ = some (.int .i64 q3) ∧ z.cell? ⟨w.heap.size + 1, 4, none⟩ = some (.int .i64 vk) ∧ z.cell? ⟨w.heap.size + 1, 5, none⟩ = some (.int .i64 vn) ∧ z.cell? ⟨w.heap.size + 1, 6, none⟩ = some (.string vt)) := hidden fun z h => by
        obtain ⟨⟨p0, p1⟩, -⟩ := box2f (box_below hXg.out h)
        exact ⟨p0, p1, box7u (box_below hXq.out h)⟩
      clear hXg hXq hO7 hff hs1 hs2 hR hps
      clear hgn
      generalize labN g.ns g.ns.length q1 = LW at *
      generalize bothN g.ns [⟨q2, 1, vk, vn, vt⟩] g.ns.length = LT at *
      obtain ⟨b0, b1, -⟩ := hcz.out y (Below.refl _ _)
      go_wp2_with fail
      refine (hfew.out y (Below.refl _ _)).mono ?_
      rintro e r2 ⟨us, a3, n3, c3, b3, m3, d3, rfl, hU, hD⟩
      have k2 : Hid (Below y.heap.size y r2) := hidden hD
      clear hD b0 b1
      by_cases hok : (checkG g).2 = 0
      · have h2 := colNew_c g us a3 n3 c3 b3 m3 d3 r2 hU hsm.out hok
        clear hU
        go_wp2_with fail
        refine h2.mono ?_
        rintro e r3 ⟨C, rfl, hCs, hD⟩
        have k3 : Hid (Below y.heap.size y r3) := hidden (k2.out.trans (hD.mono k2.out.size))
        replace hCs := hidden hCs
        obtain ⟨b0, b1, -⟩ := hcz.out r3 k3.out
        have h3 := hgood.out r3 k3.out
        have hchC := hidden (hch.out hok C)
        have hcvC := hidden (hcv.out hok C)
        have hcwC := hidden (hcw.out C)
        rw [hok] at h3
        replace hok := hidden hok
        clear hD k2 h2 hgood hch hcv hcw
        go_wp2_with fail
        refine h3.mono ?_
        rintro e r4 ⟨rfl, hD⟩
        have k4 : Hid (Below y.heap.size y r4) := hidden (k3.out.trans (hD.mono k3.out.size))
        replace hCs := hidden (hCs.out.step hD)
        clear hD k3 h3 b0 b1
        go_wp2_with fail
        obtain ⟨nX, hnX⟩ : ∃ n, n = LW.length := ⟨_, rfl⟩
        obtain ⟨nY, hnY⟩ : ∃ n, n = LT.length := ⟨_, rfl⟩
        obtain ⟨nZ, hnZ⟩ : ∃ n, n = R.length := ⟨_, rfl⟩
        have hwi : Hid (∀ z, Below r4.heap.size r4 z → Calls Try.prog 18 #[.pointer (some ⟨C.gb, 0, none⟩), .string q1] z fun e w' => ∃ a' c', e = .returned (.slice a' nX c') ∧ CanW w' r4.heap.size 1 nX (.slice a' nX c') ∧ Below z.heap.size z w') := hidden fun z h => (hcwC.out _ z (hCs.out.step h)).mono fun e w' ⟨a', c', he, ho, hb⟩ => ⟨a', c', by rw [he, hnX], by rw [hnX]; exact CanW.of_own (own_le2 ho h.size), hb⟩
        have hhi : Hid (∀ z, Below r4.heap.size r4 z → Calls Try.prog 22 #[.pointer (some ⟨C.gb, 0, none⟩), .string q2, .agg #[.int .i64 vk, .int .i64 vn, .string vt]] z fun e w' => ∃ a' c', e = .returned (.slice a' nY c') ∧ CanW w' r4.heap.size 1 nY (.slice a' nY c') ∧ Below z.heap.size z w') := hidden fun z h => (hchC.out _ z (hCs.out.step h)).mono fun e w' ⟨v, he, ho, hb⟩ => by
          obtain ⟨a', c', rfl⟩ := own_shape ho
          exact ⟨a', c', by rw [he, hnY], by rw [hnY]; exact CanW.of_own (own_le2 ho h.size), hb⟩
        have hvi : Hid (∀ z, Below r4.heap.size r4 z → Calls Try.prog 24 #[.pointer (some ⟨C.gb, 0, none⟩), .string q2] z fun e w' => ∃ a' c', e = .returned (.slice a' nZ c') ∧ CanW w' r4.heap.size 3 nZ (.slice a' nZ c') ∧ Below z.heap.size z w') := hidden fun z h => (hcvC.out _ z (hCs.out.step h)).mono fun e w' ⟨a', c', he, ho, hb⟩ => by
          refine ⟨a', c', by rw [he, hnZ], ?_, hb⟩
          rw [hnZ]
          rcases ho with ho | ⟨gb, rfl, hrs, hgb⟩
          · exact ⟨a', c', rfl, .inl (by rw [ho]; rfl)⟩
          · exact CanW.of_rs hrs (Nat.le_trans h.size hgb)
        have hcr : Hid (∀ z, Below r4.heap.size r4 z → z.cell? ⟨w.heap.size, 0, none⟩ = some (.slice a n c) ∧ z.cell? ⟨w.heap.size, 1, none⟩ = some (.slice b m d) ∧ z.cell? ⟨w.heap.size + 1, 0, none⟩ = some (.int .i64 q0) ∧ z.cell? ⟨w.heap.size + 1, 1, none⟩ = some (.string q1) ∧ z.cell? ⟨w.heap.size + 1, 2, none⟩ = some (.string q2) ∧ z.cell? ⟨w.heap.size + 1, 3, none⟩ = some (.int .i64 q3) ∧ z.cell? ⟨w.heap.size + 1, 4, none⟩ = some (.int .i64 vk) ∧ z.cell? ⟨w.heap.size + 1, 5, none⟩ = some (.int .i64 vn) ∧ z.cell? ⟨w.heap.size + 1, 6, none⟩ = some (.string vt)) := hidden fun z h => hcz.out z (k4.out.trans (h.mono k4.out.size))
        have kk : Hid (Below r4.heap.size r4 r4.drew) := hidden (Below.refl _ _).drew
        have hS := hcr.out _ kk.out
        have hnXl : nX ≤ 1000 := by rw [hnX]; exact hlW.out
        have hnYl : nY ≤ 1000 := by rw [hnY]; exact hlT.out
        have hnZl : nZ ≤ 1000 := by rw [hnZ]; exact hRl
        replace hnX := hidden hnX
        replace hnY := hidden hnY
        replace hnZ := hidden hnZ
        go_region_held3 (fun z => z.cell? ⟨w.heap.size, 0, none⟩ = some (.slice a n c) ∧ z.cell? ⟨w.heap.size, 1, none⟩ = some (.slice b m d) ∧ z.cell? ⟨w.heap.size + 1, 0, none⟩ = some (.int .i64 q0) ∧ z.cell? ⟨w.heap.size + 1, 1, none⟩ = some (.string q1) ∧ z.cell? ⟨w.heap.size + 1, 2, none⟩ = some (.string q2) ∧ z.cell? ⟨w.heap.size + 1, 3, none⟩ = some (.int .i64 q3) ∧ z.cell? ⟨w.heap.size + 1, 4, none⟩ = some (.int .i64 vk) ∧ z.cell? ⟨w.heap.size + 1, 5, none⟩ = some (.int .i64 vn) ∧ z.cell? ⟨w.heap.size + 1, 6, none⟩ = some (.string vt)) (first | exact hS | go_keep) (first
          | (go_at_call 18; refine (hwi.out _ kk.out).mono ?_; rintro e y9 ⟨ax, cx, rfl, hU, hBz⟩
             have kk := hidden (kk.out.trans (hBz.mono kk.out.size))
             have hS := hcr.out y9 kk.out
             have oX := hidden hU)
          | (go_at_call 22; refine (hhi.out _ kk.out).mono ?_; rintro e y9 ⟨ay, cy, rfl, hU, hBz⟩
             have kk := hidden (kk.out.trans (hBz.mono kk.out.size))
             have hS := hcr.out y9 kk.out
             have oX := hidden (oX.out.below hBz)
             have oY := hidden hU)
          | (go_at_call 24; refine (hvi.out _ kk.out).mono ?_; rintro e y9 ⟨az, cz, rfl, hU, hBz⟩
             have kk := hidden (kk.out.trans (hBz.mono kk.out.size))
             have hS := hcr.out y9 kk.out
             have oX := hidden (oX.out.below hBz)
             have oY := hidden (oY.out.below hBz)
             have oZ := hidden hU)
          | fail)
        clear hS hwi hhi hvi hcr
        go_wp2_with fail
        go_loopw [10] (fun i wr => ∃ k : Nat, k ≤ nX ∧ i = .int .i64 k ∧ Hid (CanW wr r4.heap.size 1 nX (.slice ax nX cx)) ∧ Hid (CanW wr r4.heap.size 1 nY (.slice ay nY cy)) ∧ Hid (CanW wr r4.heap.size 3 nZ (.slice az nZ cz)) ∧ Hid (Below r4.heap.size r4 wr))
          (fun i _ => nX - (intOf i).toNat)
        case atStart => exact ⟨0, Nat.zero_le _, rfl, oX, oY, oZ, kk⟩
        case round =>
          clear oX oY oZ kk
          obtain ⟨k, hk, rfl, oX, oY, oZ, kk⟩ := hrel
          by_cases hlt : k < nX
          · have hlt' : (k : Int) < (nX : Int) := by omega
            obtain ⟨a', c', e9, h9⟩ := oX.out
            simp only [Value.slice.injEq] at e9
            obtain ⟨rfl, -, rfl⟩ := e9
            rcases h9 with h9 | ⟨gx, rfl, hbx, -, hcx, hfx⟩
            · omega
            obtain ⟨u0, hu0⟩ := hcx k (by omega)
            have hf0 := hfx k
            clear hcx hfx
            have oX2 := hidden (oX.out.set gx k (.int .i64 99))
            have oY2 := hidden (oY.out.set gx k (.int .i64 99))
            have oZ2 := hidden (oZ.out.set gx k (.int .i64 99))
            have kk2 := hidden (kk.out.setCell (p := ⟨gx, k, none⟩) hbx (.int .i64 99))
            clear oX oY oZ kk
            go_wp2
            go_roundw
            case rel => exact ⟨k + 1, by omega, by go_num, oX2, oY2, oZ2, kk2⟩
            case measure => simp [intOf]; omega
          · have hlt' : ¬ (k : Int) < (nX : Int) := by omega
            clear hk hlt
            go_wp2_with fail
            clear hlt'
            go_loopw [11] (fun i wr => ∃ k : Nat, k ≤ nY ∧ i = .int .i64 k ∧ Hid (CanW wr r4.heap.size 1 nX (.slice ax nX cx)) ∧ Hid (CanW wr r4.heap.size 1 nY (.slice ay nY cy)) ∧ Hid (CanW wr r4.heap.size 3 nZ (.slice az nZ cz)) ∧ Hid (Below r4.heap.size r4 wr))
              (fun i _ => nY - (intOf i).toNat)
            case atStart => exact ⟨0, Nat.zero_le _, rfl, oX, oY, oZ, kk⟩
            case round =>
              clear oX oY oZ kk
              obtain ⟨k, hk, rfl, oX, oY, oZ, kk⟩ := hrel
              by_cases hlt : k < nY
              · have hlt' : (k : Int) < (nY : Int) := by omega
                obtain ⟨a', c', e9, h9⟩ := oY.out
                simp only [Value.slice.injEq] at e9
                obtain ⟨rfl, -, rfl⟩ := e9
                rcases h9 with h9 | ⟨gx, rfl, hbx, -, hcx, hfx⟩
                · omega
                obtain ⟨u0, hu0⟩ := hcx k (by omega)
                have hf0 := hfx k
                clear hcx hfx
                have oX2 := hidden (oX.out.set gx k (.int .i64 99))
                have oY2 := hidden (oY.out.set gx k (.int .i64 99))
                have oZ2 := hidden (oZ.out.set gx k (.int .i64 99))
                have kk2 := hidden (kk.out.setCell (p := ⟨gx, k, none⟩) hbx (.int .i64 99))
                clear oX oY oZ kk
                go_wp2
                go_roundw
                case rel => exact ⟨k + 1, by omega, by go_num, oX2, oY2, oZ2, kk2⟩
                case measure => simp [intOf]; omega
              · have hlt' : ¬ (k : Int) < (nY : Int) := by omega
                clear hk hlt
                go_wp2_with fail
                clear hlt'
                go_loopw [12] (fun i wr => ∃ k : Nat, k ≤ nZ ∧ i = .int .i64 k ∧ Hid (CanW wr r4.heap.size 1 nX (.slice ax nX cx)) ∧ Hid (CanW wr r4.heap.size 1 nY (.slice ay nY cy)) ∧ Hid (CanW wr r4.heap.size 3 nZ (.slice az nZ cz)) ∧ Hid (Below r4.heap.size r4 wr))
                  (fun i _ => nZ - (intOf i).toNat)
                case atStart => exact ⟨0, Nat.zero_le _, rfl, oX, oY, oZ, kk⟩
                case round =>
                  clear oX oY oZ kk
                  obtain ⟨k, hk, rfl, oX, oY, oZ, kk⟩ := hrel
                  by_cases hlt : k < nZ
                  · have hlt' : (k : Int) < (nZ : Int) := by omega
                    obtain ⟨a', c', e9, h9⟩ := oZ.out
                    simp only [Value.slice.injEq] at e9
                    obtain ⟨rfl, -, rfl⟩ := e9
                    rcases h9 with h9 | ⟨gx, rfl, hbx, -, hcx, hfx⟩
                    · omega
                    obtain ⟨u0, hu0⟩ := hcx (k * 3) (by omega)
                    obtain ⟨u1, hu1⟩ := hcx (k * 3 + 1) (by omega)
                    obtain ⟨u2, hu2⟩ := hcx (k * 3 + 2) (by omega)
                    have hf0 := hfx (k * 3)
                    have hf1 := hfx (k * 3 + 1)
                    have hf2 := hfx (k * 3 + 2)
                    clear hcx hfx
                    have oX2 := hidden (((oX.out.set gx (k * 3) (.int .i64 0)).set gx (k * 3 + 1) (.int .i64 0)).set gx (k * 3 + 2) (.string ⟨#[]⟩))
                    have oY2 := hidden (((oY.out.set gx (k * 3) (.int .i64 0)).set gx (k * 3 + 1) (.int .i64 0)).set gx (k * 3 + 2) (.string ⟨#[]⟩))
                    have oZ2 := hidden (((oZ.out.set gx (k * 3) (.int .i64 0)).set gx (k * 3 + 1) (.int .i64 0)).set gx (k * 3 + 2) (.string ⟨#[]⟩))
                    have kk2 := hidden (((kk.out.setCell (p := ⟨gx, k * 3, none⟩) hbx (.int .i64 0)).setCell (p := ⟨gx, k * 3 + 1, none⟩) hbx (.int .i64 0)).setCell (p := ⟨gx, k * 3 + 2, none⟩) hbx (.string ⟨#[]⟩))
                    clear oX oY oZ kk
                    go_wp2
                    go_roundw
                    case rel => exact ⟨k + 1, by omega, by go_num, oX2, oY2, oZ2, kk2⟩
                    case measure => simp [intOf]; omega
                  · have hlt' : ¬ (k : Int) < (nZ : Int) := by omega
                    clear hk hlt
                    go_wp2_with fail
                    clear hlt'
                    have ky : Hid (Below y.heap.size y wr) := hidden (k4.out.trans (kk.out.mono k4.out.size))
                    have oC := hidden (hCs.out.step (kk.out.drew))
                    clear oX oY oZ kk hCs k4
                    have kk : Hid (Below y.heap.size y wr.drew) := hidden (ky.out.drew)
                    have hS := hcz.out _ kk.out
                    clear ky
                    go_region_held3 (fun z => z.cell? ⟨w.heap.size, 0, none⟩ = some (.slice a n c) ∧ z.cell? ⟨w.heap.size, 1, none⟩ = some (.slice b m d) ∧ z.cell? ⟨w.heap.size + 1, 0, none⟩ = some (.int .i64 q0) ∧ z.cell? ⟨w.heap.size + 1, 1, none⟩ = some (.string q1) ∧ z.cell? ⟨w.heap.size + 1, 2, none⟩ = some (.string q2) ∧ z.cell? ⟨w.heap.size + 1, 3, none⟩ = some (.int .i64 q3) ∧ z.cell? ⟨w.heap.size + 1, 4, none⟩ = some (.int .i64 vk) ∧ z.cell? ⟨w.heap.size + 1, 5, none⟩ = some (.int .i64 vn) ∧ z.cell? ⟨w.heap.size + 1, 6, none⟩ = some (.string vt)) (first | exact hS | go_keep) (first
                      | (go_at_call 18; refine (hcwC.out _ _ oC.out).mono ?_; rintro e y9 ⟨ax, cx, rfl, hU, hBz⟩
                         have kk := hidden (kk.out.trans (hBz.mono kk.out.size))
                         have hS := hcz.out y9 kk.out
                         have oC := hidden (oC.out.step hBz)
                         have oA := hidden (natH (holdsR_of_owns (R := natR) hU))
                         have oL := hlW)
                      | (go_at_call 19; refine (hrw.out _ kk.out).mono ?_; rintro e y9 ⟨v2, rfl, hU, hBz⟩
                         have kk := hidden (kk.out.trans (hBz.mono kk.out.size))
                         have hS := hcz.out y9 kk.out
                         have oC := hidden (oC.out.step hBz)
                         have oA := hidden (oA.out.below hBz)
                         have oB := hidden (natH (holdsR_of_owns (R := natR) hU)))
                      | (go_at_call 22; refine (hchC.out _ _ oC.out).mono ?_; rintro e y9 ⟨v1, rfl, hU, hBz⟩
                         have kk := hidden (kk.out.trans (hBz.mono kk.out.size))
                         have hS := hcz.out y9 kk.out
                         have oC := hidden (oC.out.step hBz)
                         have oA := hidden (natH (holdsR_of_owns (R := natR) hU))
                         have oL := hlT)
                      | (go_at_call 21; refine (hrt.out _ kk.out).mono ?_; rintro e y9 ⟨v2, rfl, hU, hBz⟩
                         have kk := hidden (kk.out.trans (hBz.mono kk.out.size))
                         have hS := hcz.out y9 kk.out
                         have oC := hidden (oC.out.step hBz)
                         have oA := hidden (oA.out.below hBz)
                         have oB := hidden (natH hU))
                      | (go_at_call 17; refine (same_self _ _ _ _ oA.out oB.out (by have := oL.out; rw [List.length_map]; omega)).mono ?_; rintro e y9 ⟨rfl, hBz⟩
                         have kk := hidden (kk.out.trans (hBz.mono kk.out.size))
                         have hS := hcz.out y9 kk.out
                         have oC := hidden (oC.out.step hBz))
                      | (go_at_call 24; refine (hcvC.out _ _ oC.out).mono ?_; rintro e y9 ⟨az, cz, rfl, hU, hBz⟩
                         have kk := hidden (kk.out.trans (hBz.mono kk.out.size))
                         have hS := hcz.out y9 kk.out
                         have oC := hidden (oC.out.step hBz)
                         have oV := hidden (rowV hU))
                      | (go_at_call 25; refine (hrv.out _ kk.out).mono ?_; rintro e y9 ⟨av, cv, rfl, hU, hBz⟩
                         have kk := hidden (kk.out.trans (hBz.mono kk.out.size))
                         have hS := hcz.out y9 kk.out
                         have oV := hidden (oV.out.below hBz)
                         have oU := hidden hU)
                      | (go_at_call 23; refine (samev_c R _ _ _ _ _ oV.out oU.out (by omega)).mono ?_; rintro e y9 ⟨rfl, hBz⟩
                         have kk := hidden (kk.out.trans (hBz.mono kk.out.size))
                         have hS := hcz.out y9 kk.out
                         have hcwm := GoX.Calm.of_below (hC2.out.trans (kk.out.mono hC2.out.size)))
                      | (go_at_call 12; refine (hlv.out _ hcwm).mono ?_; rintro e y9 ⟨rfl, hBz⟩
                         have hfin : Hid (GoX.Calm w y9) := hidden (hcwm.trans hBz)
                         obtain ⟨e0, e1, e2, e3, e4, e5, e6, e7, e8⟩ := hS
                         have hS := And.intro (cell_calm hBz e0) (And.intro (cell_calm hBz e1) (And.intro (cell_calm hBz e2) (And.intro (cell_calm hBz e3) (And.intro (cell_calm hBz e4) (And.intro (cell_calm hBz e5) (And.intro (cell_calm hBz e6) (And.intro (cell_calm hBz e7) (cell_calm hBz e8)))))))))
                      | fail)
                    go_wp2
                    go_ret
                    exact ⟨by first | done | rfl | simp, hfin.out⟩
      · have h2 := colBad_c g us a3 n3 c3 b3 m3 d3 r2 hU hsm.out hok
        clear hU
        have g2 : ((checkG g).2 != 0) = true := by simp [hok]
        have g3 : ((checkG g).2 == 0) = false := by simp [hok]
        replace hok := hidden hok
        go_wp2_with fail
        refine h2.mono ?_
        rintro e r3 ⟨rfl, hD⟩
        have k3 : Hid (Below y.heap.size y r3) := hidden (k2.out.trans (hD.mono k2.out.size))
        obtain ⟨b0, b1, -⟩ := hcz.out r3 k3.out
        have h3 := hgood.out r3 k3.out
        rw [g3] at h3
        clear hch hcv
        generalize (checkG g).2 = q at *
        clear hD k2 h2 hgood
        go_wp2_with fail
        refine h3.mono ?_
        rintro e r4 ⟨rfl, hD⟩
        have k5 : Hid (Below w.heap.size w r4) := hidden (hC2.out.trans ((k3.out.trans (hD.mono k3.out.size)).mono hC2.out.size))
        have h6 := hlv.out r4 (.of_below k5.out)
        clear hD k3 h3 b0 b1 hlv
        go_wp2_with fail
        refine h6.mono ?_
        rintro e r9 ⟨rfl, hD⟩
        have hfin : Hid (GoX.Calm w r9) := GoX.Calm.trans (.of_below k5.out) hD
        clear hD h6 k5
        go_wp2
        go_ret
        exact ⟨by first | done | rfl | simp, hfin.out⟩
    exact AllReadyH.nil
  exact AllReadyH.nil
end Go.Proofs.Ytnmjhbnadfjapaa
