/-
  THE LAW TestNodes, with lives() as a premise.
-/
import Derived.Test.YtnmjhbnadfjapaaTNLib
import Derived.Test.YtnmjhbnadfjapaaColNew
namespace Go.Proofs.Ytnmjhbnadfjapaa
open Go.ChangeShapes Go.WideShapes Go.ChangeAt Go.RowKit Go.Maps

set_option maxHeartbeats 16000000 in
set_option maxRecDepth 100000 in
theorem lawTN_c (H : Gr) (nv ev : Value) (ps : List Pl) (es : List Pth) (rs : List ByteArray) (qc : Bool) (sk li : Int) (ct : Bool) (na : Option Addr) (N0 nc : Nat) (ea : Option Addr) (M0 ec : Nat) (ra : Option Addr) (R0 rc : Nat) (v : ByteArray) (w : World) (hG : HoldsG w nv ev H) (hw : H.wf) (hP : HoldsP w (.slice na N0 nc) ps) (hE : HoldsE w (.slice ea M0 ec) es) (hR : Holds w (.slice ra R0 rc) (tx rs))
    (hN : ps.length ≤ maxLen) (hM : es.length ≤ maxLen) (hRl : rs.length ≤ maxLen) (hT : ∀ x ∈ ps, x.ts.length ≤ maxLen) (hlv : ∀ x, GoX.Calm w x → Calls Try.prog 31 #[] x fun e w' => e = .returned (.bool true) ∧ GoX.Calm x w') :
    Calls Try.prog 6 #[.agg #[nv, ev], .agg #[.slice na N0 nc, .slice ea M0 ec, .slice ra R0 rc, .bool qc, .int .i64 sk, .int .i64 li, .bool ct], .string v] w fun e w' => e = .returned (.bool true) ∧ GoX.Calm w w' := by
  obtain ⟨w1', w2', w3', w4'⟩ := hw
  unfold maxLen at w1' w3' hN hM hRl hT
  obtain ⟨ga, gc, rfl⟩ := hG.1.slice
  obtain ⟨ha, hc, rfl, -⟩ := id hG.2
  obtain ⟨wb, hwb⟩ : ∃ wb, wb = (w.alloc (.cells #[.slice ga H.ns.length gc, .slice ha H.es.length hc] 25)).alloc (.cells #[.slice na N0 nc, .slice ea M0 ec, .slice ra R0 rc, .bool qc, .int .i64 sk, .int .i64 li, .bool ct] 74) := ⟨_, rfl⟩
  have hz1 : (w.alloc (.cells #[.slice ga H.ns.length gc, .slice ha H.es.length hc] 25)).heap.size = w.heap.size + 1 := by simp
  have hB0 : Hid (Below w.heap.size w wb) := by rw [hwb]; exact ((Below.refl _ _).alloc (Nat.le_refl _) _).alloc (by rw [hz1]; omega) _
  have hX0 : Hid (wb.heap[w.heap.size]? = some (.cells #[.slice ga H.ns.length gc, .slice ha H.es.length hc] 25)) := by
    rw [hwb]
    exact (heap_alloc_old _ _ (by rw [hz1]; omega)).trans (heap_alloc_new w _)
  have hX1 : Hid (wb.heap[w.heap.size + 1]? = some (.cells #[.slice na N0 nc, .slice ea M0 ec, .slice ra R0 rc, .bool qc, .int .i64 sk, .int .i64 li, .bool ct] 74)) := by
    rw [hwb]
    have h := heap_alloc_new (w.alloc (.cells #[.slice ga H.ns.length gc, .slice ha H.es.length hc] 25)) (.cells #[.slice na N0 nc, .slice ea M0 ec, .slice ra R0 rc, .bool qc, .int .i64 sk, .int .i64 li, .bool ct] 74)
    rw [hz1] at h
    exact h
  have hbs : Hid (wb.heap.size = w.heap.size + 2) := hidden (by rw [hwb]; simp)
  have hf0 := hidden (gfew_c H _ _ wb.drew (hG.below (hB0.out.drew)) (by omega) (by omega) (fun x hx => by have := (w2' x hx).1; unfold maxLen at this; omega))
  have hff := hidden (Gr.few_few H)
  have hsm := hidden (Gr.few_sm H)
  have hqf0 := hidden fun u (hu : Below wb.heap.size wb u) => qfew_c ps es rs qc sk li ct na N0 nc ea M0 ec ra R0 rc u (hP.below (hB0.out.trans (hu.mono hB0.out.size))) (hE.below (hB0.out.trans (hu.mono hB0.out.size))) (hR.below (hB0.out.trans (hu.mono hB0.out.size))) hN hM hRl hT
  have hcut := hidden fun z => cut_c v 32 z (by decide)
  have ht1 := hidden (ps_twice ps)
  have hok0 := hidden (plok_few ps)
  have hl2 : Hid (((es.take 17).map Pth.few).length ≤ 17) := by show _ ≤ _; simp; omega
  have hl3 : Hid (((rs.take 33).map fun s => cutB s 32).length ≤ 33) := by show _ ≤ _; simp; omega
  generalize (ps.take 17).map Pl.few = Ps at *
  generalize (es.take 17).map Pth.few = Es at *
  generalize (rs.take 33).map (fun s => cutB s 32) = Rs at *
  generalize cutB v 32 = t at *
  generalize H.few = g at *
  generalize H.ns.length = NL at *
  generalize H.es.length = EL at *
  replace hlv := hidden hlv
  clear hG w1' w2' w3' w4' hP hE hR hN hM hRl hT hz1
  have hSo : Hid (∀ z, Below wb.heap.size wb z → z.cell? ⟨w.heap.size, 0, none⟩ = some (.slice ga NL gc) ∧ z.cell? ⟨w.heap.size, 1, none⟩ = some (.slice ha EL hc) ∧ z.cell? ⟨w.heap.size + 1, 0, none⟩ = some (.slice na N0 nc) ∧ z.cell? ⟨w.heap.size + 1, 1, none⟩ = some (.slice ea M0 ec) ∧ z.cell? ⟨w.heap.size + 1, 2, none⟩ = some (.slice ra R0 rc) ∧ z.cell? ⟨w.heap.size + 1, 3, none⟩ = some (.bool qc) ∧ z.cell? ⟨w.heap.size + 1, 4, none⟩ = some (.int .i64 sk) ∧ z.cell? ⟨w.heap.size + 1, 5, none⟩ = some (.int .i64 li) ∧ z.cell? ⟨w.heap.size + 1, 6, none⟩ = some (.bool ct)) := hidden fun z h => by
    obtain ⟨⟨p0, p1⟩, -⟩ := box2f (box_below hX0.out h)
    exact ⟨p0, p1, box7u (box_below hX1.out h)⟩
  have hS0 := hSo.out wb.drew (Below.refl _ _).drew
  go_enter Try.func6, Try.ntmps6
  go_wp2_with fail
  rw [← hwb]
  replace hwb := hidden hwb
  go_wp2_with fail
  refine wp_region_parts (S := (fun z => z.cell? ⟨w.heap.size, 0, none⟩ = some (.slice ga NL gc) ∧ z.cell? ⟨w.heap.size, 1, none⟩ = some (.slice ha EL hc) ∧ z.cell? ⟨w.heap.size + 1, 0, none⟩ = some (.slice na N0 nc) ∧ z.cell? ⟨w.heap.size + 1, 1, none⟩ = some (.slice ea M0 ec) ∧ z.cell? ⟨w.heap.size + 1, 2, none⟩ = some (.slice ra R0 rc) ∧ z.cell? ⟨w.heap.size + 1, 3, none⟩ = some (.bool qc) ∧ z.cell? ⟨w.heap.size + 1, 4, none⟩ = some (.int .i64 sk) ∧ z.cell? ⟨w.heap.size + 1, 5, none⟩ = some (.int .i64 li) ∧ z.cell? ⟨w.heap.size + 1, 6, none⟩ = some (.bool ct))) #[false, false, false, false, false, false, true, true, true] #[true, true, true, true, true, true, false, false, false] [6, 7, 8] 40 6 (by kernel_rfl) (by kernel_rfl) (by kernel_rfl) (by rfl) ?_ (fun hHeld => ?_)
  · exact hS0
  first
    | (refine wpAnyH_take (i := 0) (v := ?_) at0 (by kernel_rfl) (by kernel_rfl) (by kernel_rfl) (fun _ _ _ h => h) (Or.inl ⟨by rfl, ?_⟩) (by assumption) ?_
       rotate_left
       · intro w hSw; (try dsimp only at hSw); go_simp; try with_reducible rfl)
    | fail "take 0"
  try simp only [Act.put, List.setIfInBounds_toArray, List.set_cons_zero, List.set_cons_succ]
  first
    | (refine wpAnyH_take (i := 2) (v := ?_) at2 (by kernel_rfl) (by kernel_rfl) (by kernel_rfl) (fun _ _ _ h => h) (Or.inl ⟨by rfl, ?_⟩) (by assumption) ?_
       rotate_left
       · intro w hSw; (try dsimp only at hSw); go_simp; try with_reducible rfl)
    | fail "take 2"
  try simp only [Act.put, List.setIfInBounds_toArray, List.set_cons_zero, List.set_cons_succ]
  first
    | (refine wpAnyH_take (i := 4) (v := ?_) at4 (by kernel_rfl) (by kernel_rfl) (by kernel_rfl) (fun _ _ _ h => h) (Or.inl ⟨by rfl, ?_⟩) (by assumption) ?_
       rotate_left
       · intro w hSw; (try dsimp only at hSw); go_simp; try with_reducible rfl)
    | fail "take 4"
  try simp only [Act.put, List.setIfInBounds_toArray, List.set_cons_zero, List.set_cons_succ]
  refine wpAnyH_ready (rs := [1]) (by kernel_rfl) (by simp) ?_
  refine AllReadyH.cons (i := 1) at1 (fun K hK => ?_) ?_
  · go_simp
    refine (hf0.out).mono ?_
    rintro e u1 ⟨vs, a, n, c, b, m, d, rfl, hN, hE, hBz⟩
    have kA := hidden ((Below.refl wb.heap.size wb).drew.trans hBz)
    have hSn := hSo.out u1 kA.out
    have hO1 : Hid (OwnG g vs a n c b m d u1) := hidden ⟨hN, hE⟩
    have hqf := hqf0.out u1 kA.out
    clear hN hE hBz
    refine hK.out _ _ ?_ (fun hNew => ?_)
    · exact hSn
    clear hK K hHeld
    have hHeld := hNew
    clear hNew
    try simp only [List.setIfInBounds_toArray, List.set_cons_zero, List.set_cons_succ]
    refine wpAnyH_ready (rs := [3]) (by kernel_rfl) (by simp) ?_
    refine AllReadyH.cons (i := 3) at3 (fun K hK => ?_) ?_
    · go_simp
      refine hqf.mono ?_
      rintro e u3 ⟨us, pa, pn, pc, fs, fa, fn, fc, ua, un, uc, rfl, hPl, hPt, hRt, hBz⟩
      have kB := hidden (kA.out.trans (hBz.mono kA.out.size))
      have hSn := hSo.out u3 kB.out
      have hO3 := hidden (hO1.out.below hBz)
      replace hPl := hidden hPl
      replace hPt := hidden hPt
      replace hRt := hidden hRt
      have hlo : Hid (w.heap.size + 1 < u1.heap.size + 3) := hidden (by have := hbs.out; have := kA.out.size; omega)
      clear hBz hqf
      refine hK.out _ _ ?_ (fun hNew => ?_)
      · exact hSn
      clear hK K hHeld
      have hHeld := hNew
      clear hNew
      try simp only [List.setIfInBounds_toArray, List.set_cons_zero, List.set_cons_succ]
      refine wpAnyH_ready (rs := [5]) (by kernel_rfl) (by simp) ?_
      refine AllReadyH.cons (i := 5) at5 (fun K hK => ?_) ?_
      · go_simp
        refine (hcut.out _).mono ?_
        rintro e u5 ⟨rfl, rfl⟩
        have hSn := hSo.out u5 kB.out
        refine hK.out _ _ ?_ (fun hNew => ?_)
        · exact hSn
        clear hK K hHeld
        have hHeld := hNew
        clear hNew
        try simp only [List.setIfInBounds_toArray, List.set_cons_zero, List.set_cons_succ]
        refine tail_list (is := [6, 7, 8]) (l := _) (by kernel_rfl) (by kernel_rfl) (by kernel_rfl) rfl ?_
        simp only [List.filterMap_cons, List.filterMap_nil, at6, at7, at8]
        show wpList _ _ _ (_ :: _) _ _
        have hT0 : TwoB g vs a n c b m d (u1.heap.size + 3) w.heap.size (w.heap.size + 1) #[.slice ga NL gc, .slice ha EL hc] #[.slice na N0 nc, .slice ea M0 ec, .slice ra R0 rc, .bool qc, .int .i64 sk, .int .i64 li, .bool ct] (.slice pa pn pc) us Ps Es (.slice fa fn fc) (.slice ua un uc) fs Rs w u5 := ⟨hO3.out, hPl.out, hPt.out, hRt.out, box_below hX0.out kB.out, box_below hX1.out kB.out, hB0.out.trans (kB.out.mono hB0.out.size), by have := hlo.out; omega⟩
        obtain ⟨fg0, fg1⟩ := frz2 hT0.gbox
        obtain ⟨fq0, fq1, fq2, fq3, fq4, fq5, fq6⟩ := frz7 hT0.qbox
        have hT1 := hidden (((((((((hT0.setG 0 (.slice a n c)).setG 1 (.slice b m d)).setQ 0 (.slice pa pn pc)).setQ 1 (.slice fa fn fc)).setQ 2 (.slice ua un uc)).setQ 3 (.bool qc)).setQ 4 (.int .i64 sk)).setQ 5 (.int .i64 li)).setQ 6 (.bool ct))
        clear hT0
        go_wp2_with fail
        skip
        clear fg0 fg1 fq0 fq1 fq2 fq3 fq4 fq5 fq6 hSn hSo hHeld hf0 hqf0 hcut hX0 hX1 kA kB hO1 hO3 hB0 hPl hPt hRt hlo hbs
        generalize hwy : ((((((((u5.setCell ⟨w.heap.size, 0, none⟩ (.slice a n c)).setCell ⟨w.heap.size, 1, none⟩ (.slice b m d)).setCell ⟨w.heap.size + 1, 0, none⟩ (.slice pa pn pc)).setCell ⟨w.heap.size + 1, 1, none⟩ (.slice fa fn fc)).setCell ⟨w.heap.size + 1, 2, none⟩ (.slice ua un uc)).setCell ⟨w.heap.size + 1, 3, none⟩ (.bool qc)).setCell ⟨w.heap.size + 1, 4, none⟩ (.int .i64 sk)).setCell ⟨w.heap.size + 1, 5, none⟩ (.int .i64 li)).setCell ⟨w.heap.size + 1, 6, none⟩ (.bool ct) = y at *
        clear hwy
        have hO2 := hidden hT1.out.own
        have hP2 := hidden hT1.out.places.holds
        have hE2 := hidden hT1.out.paths.holds
        have hR2 := hidden (tx_holds hT1.out.rets)
        have hXg := hidden hT1.out.gbox
        have hXq := hidden hT1.out.qbox
        have hC2 := hidden hT1.out.below
        simp only [List.setIfInBounds_toArray, List.set_cons_zero, List.set_cons_succ] at hXg hXq
        clear hT1 hS0 hwb
        obtain ⟨hgn, -⟩ := hO2.out.len
        have hN0 : g.ns.length ≤ 1000 := hsm.out.1
        have hn0 : n ≤ 1000 := by omega
        have hgl : Hid (g.ns.length = n) := hidden hgn.symm
        have hal : ∀ v j, (testsQ (Ps.take j) v).length ≤ 1000 := fun v j => Nat.le_trans (hok0.out.tests v j) (by decide)
        have hpl : Ps.length ≤ 1000 := Nat.le_trans hok0.out.len (by decide)
        have hfew : Hid (∀ z, Below y.heap.size y z → Calls Try.prog 7 #[.agg #[.slice a n c, .slice b m d]] z fun e w' => ∃ (us : List NdV) (a' : Option Addr) (n' c' : Nat) (b' : Option Addr) (m' d' : Nat), e = .returned (.agg #[.slice a' n' c', .slice b' m' d']) ∧ OwnG g us a' n' c' b' m' d' w' ∧ Below z.heap.size z w') := hidden fun z h => few_b g vs a n c b m d z (hO2.out.below h) hff.out hsm.out
        have hqfew : Hid (∀ z, Below y.heap.size y z → Calls Try.prog 33 #[.agg #[.slice pa pn pc, .slice fa fn fc, .slice ua un uc, .bool qc, .int .i64 sk, .int .i64 li, .bool ct]] z fun e w' => ∃ (p1 : Option Addr) (p2 p3 : Nat) (p4 : Option Addr) (p5 p6 : Nat) (p7 : Option Addr) (p8 p9 : Nat), e = .returned (.agg #[.slice p1 p2 p3, .slice p4 p5 p6, .slice p7 p8 p9, .bool qc, .int .i64 sk, .int .i64 li, .bool ct]) ∧ HoldsP w' (.slice p1 p2 p3) Ps ∧ Below z.heap.size z w') := hidden fun z h => by
          have h1 := qfew_c Ps Es Rs qc sk li ct pa pn pc fa fn fc ua un uc z (hP2.out.below h) (hE2.out.below h) (hR2.out.below h) (by omega) (by have := hl2.out; omega) (by have := hl3.out; omega) (fun x hx => by have := (hok0.out.each x hx).2.2.1; omega)
          rw [ht1.out] at h1
          exact h1.mono fun e w' ⟨us, p1, p2, p3, fs, p4, p5, p6, p7, p8, p9, he, h2, h3, h4, h5⟩ => ⟨p1, p2, p3, p4, p5, p6, p7, p8, p9, he, h2.holds, h5⟩
        have hgood : Hid (∀ z, Below y.heap.size y z → Calls Try.prog 26 #[.agg #[.slice a n c, .slice b m d]] z fun e w' => e = .returned (.bool ((checkG g).2 == 0)) ∧ Below z.heap.size z w') := hidden fun z h => rggood_c g vs a n c b m d z (hO2.out.below h) hsm.out
        have hrfit : Hid (∀ z, Below y.heap.size y z → ∀ k, k < n → Calls Try.prog 35 #[.agg #[.slice a n c, .slice b m d], .int .i64 (k : Int), .agg #[.slice pa pn pc, .slice fa fn fc, .slice ua un uc, .bool qc, .int .i64 sk, .int .i64 li, .bool ct], .string t] z fun e w' => e = .returned (.bool (fitN g.ns Ps t k)) ∧ Below z.heap.size z w') := hidden fun z h k hk => rfits_c g vs a n c b m d Ps t pa pn pc fa fn fc ua un uc qc sk li ct k z (hO2.out.below h) hsm.out hk (hP2.out.below h) hpl (hal t)
        have hpfit : Hid (∀ z us a' n' c' b' m' d', OwnG g us a' n' c' b' m' d' z → ∀ p1 p2 p3 p4 p5 p6 p7 p8 p9, HoldsP z (.slice p1 p2 p3) Ps → ∀ k, k < n → Calls Try.prog 34 #[.agg #[.slice a' n' c', .slice b' m' d'], .int .i64 (k : Int), .agg #[.slice p1 p2 p3, .slice p4 p5 p6, .slice p7 p8 p9, .bool qc, .int .i64 sk, .int .i64 li, .bool ct], .string t] z fun e w' => e = .returned (.bool (fitN g.ns Ps t k)) ∧ Below z.heap.size z w') := hidden fun z us a' n' c' b' m' d' hO p1 p2 p3 p4 p5 p6 p7 p8 p9 hE k hk => fits_c g us a' n' c' b' m' d' Ps t p1 p2 p3 p4 p5 p6 p7 p8 p9 qc sk li ct k z hO hsm.out (by have := hO.len.1; have := hgl.out; omega) hE hpl (hal t)
        have hln : Hid (∀ z us a' n' c' b' m' d', OwnG g us a' n' c' b' m' d' z → n' = n) := hidden fun z us a' n' c' b' m' d' hO => by have := hO.len.1; have := hgl.out; omega
        obtain ⟨X, hX⟩ : ∃ X : ByteArray → List Nat, Hid (X = fun v => nodesN g.ns Ps v g.ns.length) := ⟨_, hidden rfl⟩
        have hXl : Hid (∀ v, (X v).length ≤ 1000) := hidden fun v => by rw [hX.out]; exact Nat.le_trans (nodesN_len g.ns Ps v g.ns.length) hN0
        have hrn : Hid (∀ z, Below y.heap.size y z → ∀ v, Calls Try.prog 39 #[.agg #[.slice a n c, .slice b m d], .agg #[.slice pa pn pc, .slice fa fn fc, .slice ua un uc, .bool qc, .int .i64 sk, .int .i64 li, .bool ct], .string v] z fun e w' => ∃ u, e = .returned u ∧ w'.ownsRow z.heap.size 3 1 u (X v).length (natR.flat (X v)) ∧ Below z.heap.size z w') := hidden fun z h v => by
          rw [hX.out]
          exact rnodes_c g vs a n c b m d Ps v pa pn pc fa fn fc ua un uc qc sk li ct z (hO2.out.below h) hsm.out (hP2.out.below h) hpl (hal v)
        have hnil : Hid (∀ z, Below y.heap.size y z → Calls Try.prog 36 #[.pointer none, .agg #[.slice pa pn pc, .slice fa fn fc, .slice ua un uc, .bool qc, .int .i64 sk, .int .i64 li, .bool ct], .string t] z fun e w' => ∃ a c, e = .returned (.slice a 0 c) ∧ Below z.heap.size z w') := hidden fun z h => nodesNil_c Ps t pa pn pc fa fn fc ua un uc qc sk li ct z (hP2.out.below h) hok0.out
        have hnod : Hid ((checkG g).2 = 0 → ∀ C B z, ColAt g.ns C B z → ∀ p1 p2 p3 p4 p5 p6 p7 p8 p9, HoldsP z (.slice p1 p2 p3) Ps → ∀ v, Calls Try.prog 36 #[.pointer (some ⟨C.gb, 0, none⟩), .agg #[.slice p1 p2 p3, .slice p4 p5 p6, .slice p7 p8 p9, .bool qc, .int .i64 sk, .int .i64 li, .bool ct], .string v] z fun e w' => ∃ u, e = .returned u ∧ Holds w' u (ints (X v)) ∧ Below z.heap.size z w') := hidden fun hg C B z hC p1 p2 p3 p4 p5 p6 p7 p8 p9 hE v => by
          rw [hX.out]
          exact nodesC_c g hg hsm.out C B Ps v p1 p2 p3 p4 p5 p6 p7 p8 p9 qc sk li ct z hC hE hok0.out
        have hlst : Hid ((checkG g).2 = 0 → ∀ C B z, ColAt g.ns C B z → ∀ p1 p2 p3 p4 p5 p6 p7 p8 p9, HoldsP z (.slice p1 p2 p3) Ps → Calls Try.prog 38 #[.pointer (some ⟨C.gb, 0, none⟩), .agg #[.slice p1 p2 p3, .slice p4 p5 p6, .slice p7 p8 p9, .bool qc, .int .i64 sk, .int .i64 li, .bool ct]] z fun e w' => e = .returned (.tuple #[.string ((varsQ Ps).getD (bestI (fun i => (X ((varsQ Ps).getD i ⟨#[]⟩)).length) (varsQ Ps).length) ⟨#[]⟩), .bool (decide (0 < (varsQ Ps).length))]) ∧ Below z.heap.size z w') := hidden fun hg C B z hC p1 p2 p3 p4 p5 p6 p7 p8 p9 hE => least_c (.pointer (some ⟨C.gb, 0, none⟩)) X Ps p1 p2 p3 p4 p5 p6 p7 p8 p9 qc sk li ct z hE (by have := hok0.out.len; omega) (fun p hp => (hok0.out.each p hp).1) hXl.out (fun z2 hz2 v _ => hnod.out hg C B z2 (hC.step hz2) p1 p2 p3 p4 p5 p6 p7 p8 p9 (hE.below hz2) v)
        have hvar : Hid (∀ z, Below y.heap.size y z → Calls Try.prog 37 #[.agg #[.slice pa pn pc, .slice fa fn fc, .slice ua un uc, .bool qc, .int .i64 sk, .int .i64 li, .bool ct]] z fun e w' => ∃ a c, e = .returned (.slice a (varsQ Ps).length c) ∧ w'.ownsRow (z.heap.size + 1) 9 1 (.slice a (varsQ Ps).length c) (varsQ Ps).length (tx (varsQ Ps)) ∧ Below z.heap.size z w') := hidden fun z h => rvarsQ_c Ps pa pn pc fa fn fc ua un uc qc sk li ct z (hP2.out.below h) (by omega)
        have hvl : (varsQ Ps).length ≤ 1000 := Nat.le_trans (varsQ_le Ps) hpl
        have hcz : Hid (∀ z, Below y.heap.size y z → z.cell? ⟨w.heap.size, 0, none⟩ = some (.slice a n c) ∧ z.cell? ⟨w.heap.size, 1, none⟩ = some (.slice b m d) ∧ z.cell? ⟨w.heap.size + 1, 0, none⟩ = some (.slice pa pn pc) ∧ z.cell? ⟨w.heap.size + 1, 1, none⟩ = some (.slice fa fn fc) ∧ z.cell? ⟨w.heap.size + 1, 2, none⟩ = some (.slice ua un uc) ∧ z.cell? ⟨w.heap.size + 1, 3, none⟩ = some (.bool qc) ∧ z.cell? ⟨w.heap.size + 1, 4, none⟩ = some (.int .i64 sk) ∧ z.cell? ⟨w.heap.size + 1, 5, none⟩ = some (.int .i64 li) ∧ z.cell? ⟨w.heap.size + 1, 6, none⟩ = some (.bool ct)) := hidden fun z h => by
          obtain ⟨⟨p0, p1⟩, -⟩ := box2f (box_below hXg.out h)
          exact ⟨p0, p1, box7u (box_below hXq.out h)⟩
        clear hXg hXq hO2 hP2 hE2 hR2 ht1 hl2 hl3 hal hff
        clear hgn
        generalize varsQ Ps = VV at *
        generalize fitN g.ns Ps t = fit at *
        go_wp2_with fail
        go_loopw [7] (fun i wr => ∃ z : Int, -1 ≤ z ∧ z ≤ (n : Int) + 1 ∧ i = .int .i64 z ∧ Hid (Below y.heap.size y wr))
          (fun i _ => ((n : Int) + 1 - intOf i).toNat)
        case atStart => exact ⟨-1, by omega, by omega, rfl, hidden (Below.refl _ _)⟩
        case round =>
          obtain ⟨z, hz1, hz2, rfl, hnx⟩ := hrel
          obtain ⟨b0, b1, s0, s1, s2, s3, s4, s5, s6⟩ := hcz.out wr hnx.out
          by_cases hle : z ≤ (n : Int)
          · have kk : Hid (Below y.heap.size y wr.drew) := hidden (hnx.out.trans (Below.refl _ _).drew)
            have hS := hcz.out _ kk.out
            by_cases hin : 0 ≤ z ∧ z < (n : Int)
            · obtain ⟨k, rfl⟩ : ∃ k : Nat, z = k := ⟨z.toNat, by omega⟩
              have hkn : k < n := by omega
              have hkh := hidden hkn
              go_wp2_with fail
              clear b0 b1 s0 s1 s2 s3 s4 s5 s6
              go_region_held3 (fun z => z.cell? ⟨w.heap.size, 0, none⟩ = some (.slice a n c) ∧ z.cell? ⟨w.heap.size, 1, none⟩ = some (.slice b m d) ∧ z.cell? ⟨w.heap.size + 1, 0, none⟩ = some (.slice pa pn pc) ∧ z.cell? ⟨w.heap.size + 1, 1, none⟩ = some (.slice fa fn fc) ∧ z.cell? ⟨w.heap.size + 1, 2, none⟩ = some (.slice ua un uc) ∧ z.cell? ⟨w.heap.size + 1, 3, none⟩ = some (.bool qc) ∧ z.cell? ⟨w.heap.size + 1, 4, none⟩ = some (.int .i64 sk) ∧ z.cell? ⟨w.heap.size + 1, 5, none⟩ = some (.int .i64 li) ∧ z.cell? ⟨w.heap.size + 1, 6, none⟩ = some (.bool ct)) (first | exact hS | go_keep) (first
                | (go_at_call 7; refine (hfew.out _ kk.out).mono ?_; rintro e y9 ⟨us, a3, n3, c3, b3, m3, d3, rfl, hU, hBz⟩
                   have kk := hidden (kk.out.trans (hBz.mono kk.out.size))
                   have hS := hcz.out y9 kk.out
                   obtain rfl := hln.out _ _ _ _ _ _ _ _ hU
                   have oG := hidden hU)
                | (go_at_call 33; refine (hqfew.out _ kk.out).mono ?_; rintro e y9 ⟨p1, p2, p3, p4, p5, p6, p7, p8, p9, rfl, hU, hBz⟩
                   have kk := hidden (kk.out.trans (hBz.mono kk.out.size))
                   have hS := hcz.out y9 kk.out
                   have oG := hidden (oG.out.below hBz)
                   have oQ := hidden hU)
                | (go_at_call 34; refine (hpfit.out _ _ _ _ _ _ _ _ oG.out _ _ _ _ _ _ _ _ _ oQ.out k hkh.out).mono ?_; rintro e y9 ⟨rfl, hBz⟩
                   have kk := hidden (kk.out.trans (hBz.mono kk.out.size))
                   have hS := hcz.out y9 kk.out
                   skip)
                | (go_at_call 35; refine (hrfit.out _ kk.out k hkh.out).mono ?_; rintro e y9 ⟨rfl, hBz⟩
                   have kk := hidden (kk.out.trans (hBz.mono kk.out.size))
                   have hS := hcz.out y9 kk.out
                   skip)
                | fail)
              clear hS
              generalize fit k = bb at *
              go_wp2
              go_roundw
              case rel => exact ⟨(k : Int) + 1, by omega, by omega, by go_num, kk⟩
              case measure => simp [intOf]; omega
            · have hout : z < 0 ∨ (n : Int) ≤ z := by omega
              have hoh := hidden hout
              clear hin hout
              go_wp2_with fail
              clear b0 b1 s0 s1 s2 s3 s4 s5 s6
              go_region_held3 (fun z => z.cell? ⟨w.heap.size, 0, none⟩ = some (.slice a n c) ∧ z.cell? ⟨w.heap.size, 1, none⟩ = some (.slice b m d) ∧ z.cell? ⟨w.heap.size + 1, 0, none⟩ = some (.slice pa pn pc) ∧ z.cell? ⟨w.heap.size + 1, 1, none⟩ = some (.slice fa fn fc) ∧ z.cell? ⟨w.heap.size + 1, 2, none⟩ = some (.slice ua un uc) ∧ z.cell? ⟨w.heap.size + 1, 3, none⟩ = some (.bool qc) ∧ z.cell? ⟨w.heap.size + 1, 4, none⟩ = some (.int .i64 sk) ∧ z.cell? ⟨w.heap.size + 1, 5, none⟩ = some (.int .i64 li) ∧ z.cell? ⟨w.heap.size + 1, 6, none⟩ = some (.bool ct)) (first | exact hS | go_keep) (first
                | (go_at_call 7; refine (hfew.out _ kk.out).mono ?_; rintro e y9 ⟨us, a3, n3, c3, b3, m3, d3, rfl, hU, hBz⟩
                   have kk := hidden (kk.out.trans (hBz.mono kk.out.size))
                   have hS := hcz.out y9 kk.out
                   have hn3 := hln.out _ _ _ _ _ _ _ _ hU
                   subst hn3
                   have oG := hidden hU)
                | (go_at_call 33; refine (hqfew.out _ kk.out).mono ?_; rintro e y9 ⟨p1, p2, p3, p4, p5, p6, p7, p8, p9, rfl, hU, hBz⟩
                   have kk := hidden (kk.out.trans (hBz.mono kk.out.size))
                   have hS := hcz.out y9 kk.out
                   have oG := hidden (oG.out.below hBz)
                   have oQ := hidden hU)
                | (go_at_call 34; refine (fitsno_c _ _ _ _ _ _ _ _ _ _ _ _ _ _ _ _ _ _ _ _ _ _ hoh.out).mono ?_; rintro e y9 ⟨rfl, hBz⟩
                   have kk := hidden (kk.out.trans (hBz.mono kk.out.size))
                   have hS := hcz.out y9 kk.out
                   skip)
                | (go_at_call 35; refine (rfitsno_c _ _ _ _ _ _ _ _ _ _ _ _ _ _ _ _ _ _ _ _ _ _ hoh.out).mono ?_; rintro e y9 ⟨rfl, hBz⟩
                   have kk := hidden (kk.out.trans (hBz.mono kk.out.size))
                   have hS := hcz.out y9 kk.out
                   skip)
                | fail)
              clear hS
              go_wp2
              go_roundw
              case rel => exact ⟨z + 1, by omega, by omega, by go_num, kk⟩
              case measure => simp only [intOf]; omega
          · obtain rfl : z = (n : Int) + 1 := by omega
            clear hrfit hpfit hz1 hz2
            go_wp2_with fail
            refine (hfew.out wr hnx.out).mono ?_
            rintro e r2 ⟨us, a3, n3, c3, b3, m3, d3, rfl, hU, hD⟩
            have k2 : Hid (Below y.heap.size y r2) := hidden (hnx.out.trans (hD.mono hnx.out.size))
            clear hD b0 b1 s0 s1 s2 s3 s4 s5 s6 hnx hle
            by_cases hok : (checkG g).2 = 0
            · have h2 := colNew_c g us a3 n3 c3 b3 m3 d3 r2 hU hsm.out hok
              clear hU
              go_wp2_with fail
              refine h2.mono ?_
              rintro e r3 ⟨C, rfl, hCs, hD⟩
              have k3 : Hid (Below y.heap.size y r3) := hidden (k2.out.trans (hD.mono k2.out.size))
              replace hCs := hidden hCs
              obtain ⟨b0, b1, -⟩ := hcz.out r3 k3.out
              have h3 := hgood.out r3 k3.out
              have hnodC := hidden (hnod.out hok C)
              have hlstC := hidden (hlst.out hok C)
              rw [hok] at h3
              replace hok := hidden hok
              clear hD k2 h2 hgood hnod hlst
              go_wp2_with fail
              refine h3.mono ?_
              rintro e r4 ⟨rfl, hD⟩
              have k4 : Hid (Below y.heap.size y r4) := hidden (k3.out.trans (hD.mono k3.out.size))
              replace hCs := hidden (hCs.out.step hD)
              obtain ⟨-, -, s0, s1, s2, s3, s4, s5, s6⟩ := hcz.out r4 k4.out
              have h5 := hvar.out r4 k4.out
              clear hD k3 h3 b0 b1 hvar
              go_wp2_with fail
              refine h5.mono ?_
              rintro e r5 ⟨la, lc, rfl, hLo, hD⟩
              have k5 : Hid (Below y.heap.size y r5) := hidden (k4.out.trans (hD.mono k4.out.size))
              replace hCs := hidden (hCs.out.step hD)
              replace hLo := hidden (owns_tx hLo)
              obtain ⟨-, -, t0, t1, t2, t3, t4, t5, t6⟩ := hcz.out r5 k5.out
              have h6 := hqfew.out r5 k5.out
              clear hD k4 h5 s0 s1 s2 s3 s4 s5 s6
              go_wp2_with fail
              refine h6.mono ?_
              rintro e r6 ⟨p1, p2, p3, p4, p5, p6, p7, p8, p9, rfl, hU, hD⟩
              have k6 : Hid (Below y.heap.size y r6) := hidden (k5.out.trans (hD.mono k5.out.size))
              replace hCs := hidden (hCs.out.step hD)
              replace hLo := hidden (hLo.out.below hD)
              have h7 := hlstC.out _ r6 hCs.out p1 p2 p3 p4 p5 p6 p7 p8 p9 hU
              obtain ⟨f, hf⟩ : ∃ f : Nat → Nat, f = fun i => (X (VV.getD i ⟨#[]⟩)).length := ⟨_, rfl⟩
              rw [← hf] at h7
              have hf1 : Hid (∀ i, f i = (X (VV.getD i ⟨#[]⟩)).length) := hidden fun i => by rw [hf]
              clear hf hD k5 h6 hU hlstC t0 t1 t2 t3 t4 t5 t6
              go_wp2_with fail
              refine h7.mono ?_
              rintro e r7 ⟨rfl, hD⟩
              have k7 : Hid (Below y.heap.size y r7) := hidden (k6.out.trans (hD.mono k6.out.size))
              replace hCs := hidden (hCs.out.step hD)
              replace hLo := hidden (hLo.out.below hD)
              clear hD k6 h7
              by_cases h0 : VV.length = 0
              · have hd : Hid (decide (0 < VV.length) = false) := hidden (decide_eq_false (by omega))
                have hv0 : Hid (VV.getD (bestI f VV.length) ⟨#[]⟩ = ⟨#[]⟩) := hidden (by rw [List.eq_nil_of_length_eq_zero h0]; rfl)
                rw [hd.out, hv0.out]
                have hh0 : ¬ (0 : Int) < (VV.length : Int) := by omega
                go_wp2_with fail
                clear hh0
                have kk : Hid (Below y.heap.size y r7.drew) := hidden (k7.out.trans (Below.refl _ _).drew)
                have hS := hcz.out _ kk.out
                have oC := hidden (hCs.out.step (Below.refl r7.heap.size r7).drew)
                go_region_held3 (fun z => z.cell? ⟨w.heap.size, 0, none⟩ = some (.slice a n c) ∧ z.cell? ⟨w.heap.size, 1, none⟩ = some (.slice b m d) ∧ z.cell? ⟨w.heap.size + 1, 0, none⟩ = some (.slice pa pn pc) ∧ z.cell? ⟨w.heap.size + 1, 1, none⟩ = some (.slice fa fn fc) ∧ z.cell? ⟨w.heap.size + 1, 2, none⟩ = some (.slice ua un uc) ∧ z.cell? ⟨w.heap.size + 1, 3, none⟩ = some (.bool qc) ∧ z.cell? ⟨w.heap.size + 1, 4, none⟩ = some (.int .i64 sk) ∧ z.cell? ⟨w.heap.size + 1, 5, none⟩ = some (.int .i64 li) ∧ z.cell? ⟨w.heap.size + 1, 6, none⟩ = some (.bool ct)) (first | exact hS | go_keep) (first
                  | (go_at_call 33; refine (hqfew.out _ kk.out).mono ?_; rintro e y9 ⟨p1, p2, p3, p4, p5, p6, p7, p8, p9, rfl, hU, hBz⟩
                     have kk := hidden (kk.out.trans (hBz.mono kk.out.size))
                     have hS := hcz.out y9 kk.out
                     have oC := hidden (oC.out.step hBz)
                     have oQ := hidden hU)
                  | (go_at_call 36; refine (hnodC.out _ _ oC.out _ _ _ _ _ _ _ _ _ oQ.out t).mono ?_; rintro e y9 ⟨v1, rfl, hU, hBz⟩
                     have kk := hidden (kk.out.trans (hBz.mono kk.out.size))
                     have hS := hcz.out y9 kk.out
                     have oN := hidden (natL hU))
                  | (go_at_call 39; refine (hrn.out _ kk.out t).mono ?_; rintro e y9 ⟨v2, rfl, hU, hBz⟩
                     have kk := hidden (kk.out.trans (hBz.mono kk.out.size))
                     have hS := hcz.out y9 kk.out
                     have oN := hidden (oN.out.below hBz)
                     have oR := hidden (natH (holdsR_of_owns (R := natR) hU)))
                  | (go_at_call 17; refine (same_self _ _ _ _ oN.out oR.out (by have := hXl.out t; rw [List.length_map]; omega)).mono ?_; rintro e y9 ⟨rfl, hBz⟩
                     have kk := hidden (kk.out.trans (hBz.mono kk.out.size))
                     have hS := hcz.out y9 kk.out
                     have hcw := GoX.Calm.of_below (hC2.out.trans (kk.out.mono hC2.out.size)))
                  | (go_at_call 31; refine (hlv.out _ hcw).mono ?_; rintro e y9 ⟨rfl, hBz⟩
                     have hfin : Hid (GoX.Calm w y9) := hidden (hcw.trans hBz)
                     obtain ⟨e0, e1, e2, e3, e4, e5, e6, e7, e8⟩ := hS
                     have hS := And.intro (cell_calm hBz e0) (And.intro (cell_calm hBz e1) (And.intro (cell_calm hBz e2) (And.intro (cell_calm hBz e3) (And.intro (cell_calm hBz e4) (And.intro (cell_calm hBz e5) (And.intro (cell_calm hBz e6) (And.intro (cell_calm hBz e7) (cell_calm hBz e8)))))))))
                  | fail)
                go_wp2
                go_ret
                exact ⟨by first | done | rfl | simp, hfin.out⟩
              · have hd : Hid (decide (0 < VV.length) = true) := hidden (decide_eq_true (by omega))
                rw [hd.out]
                have hh0 : (0 : Int) < (VV.length : Int) := by omega
                have hbl := hidden (bestI_lt f VV.length (by omega))
                have hw9 : Hid (∃ s9, s9 = VV.getD (bestI f VV.length) ⟨#[]⟩) := hidden ⟨_, rfl⟩
                obtain ⟨s9, hs9⟩ := hw9.out
                rw [← hs9]
                replace hs9 := hidden hs9
                clear hw9
                go_wp2_with fail
                go_loopw [13, 14] (fun bi i wr => ∃ k : Nat, k ≤ VV.length ∧ i = .int .i64 k ∧ bi = .int .i64 (bestI f k : Nat) ∧ Hid (Below r7.heap.size r7 wr))
                  (fun _ i _ => VV.length - (intOf i).toNat)
                case atStart => exact ⟨0, Nat.zero_le _, rfl, rfl, hidden (Below.refl _ _)⟩
                case round =>
                  obtain ⟨k, hk, rfl, rfl, hnx⟩ := hrel
                  have hny : Hid (Below y.heap.size y wr) := hidden (k7.out.trans (hnx.out.mono k7.out.size))
                  by_cases hlt : k < VV.length
                  · have hlt' : (k : Int) < (VV.length : Int) := by omega
                    have hble : bestI f k < VV.length := Nat.lt_of_le_of_lt (bestI_le f k) hlt
                    have hb1 : (bestI f k : Int) < (VV.length : Int) := by omega
                    have hlz := hidden fun z (h : Below wr.heap.size wr z) => (hLo.out.below (hnx.out.trans (h.mono hnx.out.size)))
                    have htx := hidden fun z (h : Below wr.heap.size wr z) => tx_in (hlz.out z h) hlt
                    have hty := hidden fun z (h : Below wr.heap.size wr z) => tx_in (hlz.out z h) hble
                    obtain ⟨lb, lo, hla, -, f0⟩ := htx.out wr (Below.refl _ _)
                    have hst : Hid (bestI f (k + 1) = if (X (VV.getD k ⟨#[]⟩)).length < (X (VV.getD (bestI f k) ⟨#[]⟩)).length then k else bestI f k) := hidden (by rw [← hf1.out, ← hf1.out]; rfl)
                    have hcr : Hid (∀ z, Below wr.heap.size wr z → z.cell? ⟨w.heap.size, 0, none⟩ = some (.slice a n c) ∧ z.cell? ⟨w.heap.size, 1, none⟩ = some (.slice b m d) ∧ z.cell? ⟨w.heap.size + 1, 0, none⟩ = some (.slice pa pn pc) ∧ z.cell? ⟨w.heap.size + 1, 1, none⟩ = some (.slice fa fn fc) ∧ z.cell? ⟨w.heap.size + 1, 2, none⟩ = some (.slice ua un uc) ∧ z.cell? ⟨w.heap.size + 1, 3, none⟩ = some (.bool qc) ∧ z.cell? ⟨w.heap.size + 1, 4, none⟩ = some (.int .i64 sk) ∧ z.cell? ⟨w.heap.size + 1, 5, none⟩ = some (.int .i64 li) ∧ z.cell? ⟨w.heap.size + 1, 6, none⟩ = some (.bool ct) ∧ z.cell? ⟨lb, lo + k, none⟩ = some (.string (VV.getD k ⟨#[]⟩)) ∧ z.cell? ⟨lb, lo + bestI f k, none⟩ = some (.string (VV.getD (bestI f k) ⟨#[]⟩))) := hidden fun z h => by
                      obtain ⟨q0, q1, q2, q3, q4, q5, q6, q7, q8⟩ := hcz.out z (hny.out.trans (h.mono hny.out.size))
                      obtain ⟨lb2, lo2, hla2, -, f2⟩ := htx.out z h
                      obtain ⟨lb3, lo3, hla3, -, f3⟩ := hty.out z h
                      rw [hla] at hla2 hla3
                      cases hla2
                      cases hla3
                      exact ⟨q0, q1, q2, q3, q4, q5, q6, q7, q8, f2, f3⟩
                    have kk : Hid (Below wr.heap.size wr wr.drew) := hidden (Below.refl _ _).drew
                    have hS := hcr.out _ kk.out
                    have hbk : Hid (bestI f (k + 1) = k ∨ bestI f (k + 1) = bestI f k) := hidden (by rw [hst.out]; split <;> simp)
                    clear f0 hlz htx hty
                    subst hla
                    generalize VV.getD k ⟨#[]⟩ = s at *
                    generalize VV.getD (bestI f k) ⟨#[]⟩ = s2 at *
                    generalize bestI f k = bk at *
                    go_wp2_with fail
                    go_region_held3 (fun z => z.cell? ⟨w.heap.size, 0, none⟩ = some (.slice a n c) ∧ z.cell? ⟨w.heap.size, 1, none⟩ = some (.slice b m d) ∧ z.cell? ⟨w.heap.size + 1, 0, none⟩ = some (.slice pa pn pc) ∧ z.cell? ⟨w.heap.size + 1, 1, none⟩ = some (.slice fa fn fc) ∧ z.cell? ⟨w.heap.size + 1, 2, none⟩ = some (.slice ua un uc) ∧ z.cell? ⟨w.heap.size + 1, 3, none⟩ = some (.bool qc) ∧ z.cell? ⟨w.heap.size + 1, 4, none⟩ = some (.int .i64 sk) ∧ z.cell? ⟨w.heap.size + 1, 5, none⟩ = some (.int .i64 li) ∧ z.cell? ⟨w.heap.size + 1, 6, none⟩ = some (.bool ct) ∧ z.cell? ⟨lb, lo + k, none⟩ = some (.string s) ∧ z.cell? ⟨lb, lo + bk, none⟩ = some (.string s2)) (first | exact hS | go_keep) (first
                      | (go_at_call 39; refine (hrn.out _ (hny.out.trans (kk.out.mono hny.out.size)) _).mono ?_; rintro e y9 ⟨u9, rfl, hu, hBz⟩
                         have kk := hidden (kk.out.trans (hBz.mono kk.out.size))
                         have hS := hcr.out y9 kk.out
                         obtain ⟨oa, oc, rfl⟩ := own_shape hu
                         clear hu hBz)
                      | fail)
                    have hn9 : Hid (Below r7.heap.size r7 y9) := hidden (hnx.out.trans (kk.out.mono hnx.out.size))
                    clear hS
                    by_cases hc : (X s).length < (X s2).length
                    · have hc' : ((X s).length : Int) < ((X s2).length : Int) := by omega
                      have he : bestI f (k + 1) = k := by rw [hst.out, if_pos hc]
                      replace he := hidden he
                      go_wp2
                      go_roundw
                      case rel => exact ⟨k + 1, by omega, by go_num, by rw [he.out], hn9⟩
                      case measure => simp [intOf]; omega
                    · have hc' : ¬ ((X s).length : Int) < ((X s2).length : Int) := by omega
                      have he : bestI f (k + 1) = bk := by rw [hst.out, if_neg hc]
                      replace he := hidden he
                      go_wp2
                      go_roundw
                      case rel => exact ⟨k + 1, by omega, by go_num, by rw [he.out], hn9⟩
                      case measure => simp [intOf]; omega
                  · have hlt' : ¬ (k : Int) < (VV.length : Int) := by omega
                    obtain rfl : k = VV.length := by omega
                    replace hCs := hidden (hCs.out.step hnx.out)
                    obtain ⟨lb, lo, rfl, -, f0⟩ := tx_in (hLo.out.below hnx.out) hbl.out
                    rw [← hs9.out] at f0
                    have hbI : (bestI f VV.length : Int) < (VV.length : Int) := by have := hbl.out; omega
                    have hbn : ¬ (bestI f VV.length : Int) < 0 := by omega
                    clear hf1 hbl hs9 hnx k7 hk
                    generalize bestI f VV.length = bl at *
                    go_wp2_with fail
                    clear f0
                    have kk : Hid (Below y.heap.size y wr.drew) := hidden (hny.out.trans (Below.refl _ _).drew)
                    have hS := hcz.out _ kk.out
                    have oC := hidden (hCs.out.step (Below.refl wr.heap.size wr).drew)
                    go_region_held3 (fun z => z.cell? ⟨w.heap.size, 0, none⟩ = some (.slice a n c) ∧ z.cell? ⟨w.heap.size, 1, none⟩ = some (.slice b m d) ∧ z.cell? ⟨w.heap.size + 1, 0, none⟩ = some (.slice pa pn pc) ∧ z.cell? ⟨w.heap.size + 1, 1, none⟩ = some (.slice fa fn fc) ∧ z.cell? ⟨w.heap.size + 1, 2, none⟩ = some (.slice ua un uc) ∧ z.cell? ⟨w.heap.size + 1, 3, none⟩ = some (.bool qc) ∧ z.cell? ⟨w.heap.size + 1, 4, none⟩ = some (.int .i64 sk) ∧ z.cell? ⟨w.heap.size + 1, 5, none⟩ = some (.int .i64 li) ∧ z.cell? ⟨w.heap.size + 1, 6, none⟩ = some (.bool ct)) (first | exact hS | go_keep) (first
                      | (go_at_call 33; refine (hqfew.out _ kk.out).mono ?_; rintro e y9 ⟨p1, p2, p3, p4, p5, p6, p7, p8, p9, rfl, hU, hBz⟩
                         have kk := hidden (kk.out.trans (hBz.mono kk.out.size))
                         have hS := hcz.out y9 kk.out
                         have oC := hidden (oC.out.step hBz)
                         have oQ := hidden hU)
                      | (go_at_call 36; refine (hnodC.out _ _ oC.out _ _ _ _ _ _ _ _ _ oQ.out t).mono ?_; rintro e y9 ⟨v1, rfl, hU, hBz⟩
                         have kk := hidden (kk.out.trans (hBz.mono kk.out.size))
                         have hS := hcz.out y9 kk.out
                         have oN := hidden (natL hU))
                      | (go_at_call 39; refine (hrn.out _ kk.out t).mono ?_; rintro e y9 ⟨v2, rfl, hU, hBz⟩
                         have kk := hidden (kk.out.trans (hBz.mono kk.out.size))
                         have hS := hcz.out y9 kk.out
                         have oN := hidden (oN.out.below hBz)
                         have oR := hidden (natH (holdsR_of_owns (R := natR) hU)))
                      | (go_at_call 17; refine (same_self _ _ _ _ oN.out oR.out (by have := hXl.out t; rw [List.length_map]; omega)).mono ?_; rintro e y9 ⟨rfl, hBz⟩
                         have kk := hidden (kk.out.trans (hBz.mono kk.out.size))
                         have hS := hcz.out y9 kk.out
                         have hcw := GoX.Calm.of_below (hC2.out.trans (kk.out.mono hC2.out.size)))
                      | (go_at_call 31; refine (hlv.out _ hcw).mono ?_; rintro e y9 ⟨rfl, hBz⟩
                         have hfin : Hid (GoX.Calm w y9) := hidden (hcw.trans hBz)
                         obtain ⟨e0, e1, e2, e3, e4, e5, e6, e7, e8⟩ := hS
                         have hS := And.intro (cell_calm hBz e0) (And.intro (cell_calm hBz e1) (And.intro (cell_calm hBz e2) (And.intro (cell_calm hBz e3) (And.intro (cell_calm hBz e4) (And.intro (cell_calm hBz e5) (And.intro (cell_calm hBz e6) (And.intro (cell_calm hBz e7) (cell_calm hBz e8)))))))))
                      | fail)
                    go_wp2
                    go_ret
                    exact ⟨by first | done | rfl | simp, hfin.out⟩
            · have h2 := colBad_c g us a3 n3 c3 b3 m3 d3 r2 hU hsm.out hok
              clear hU
              have g2 : ((checkG g).2 != 0) = true := by simp [hok]
              have g3 : ((checkG g).2 == 0) = false := by simp [hok]
              replace hok := hidden hok
              go_wp2_with fail
              refine h2.mono ?_
              rintro e r3 ⟨rfl, hD⟩
              have k3 : Hid (Below y.heap.size y r3) := hidden (k2.out.trans (hD.mono k2.out.size))
              obtain ⟨b0, b1, -⟩ := hcz.out r3 k3.out
              have h3 := hgood.out r3 k3.out
              rw [g3] at h3
              clear hnod hlst
              generalize (checkG g).2 = q at *
              clear hD k2 h2 hgood
              go_wp2_with fail
              refine h3.mono ?_
              rintro e r4 ⟨rfl, hD⟩
              have k4 : Hid (Below y.heap.size y r4) := hidden (k3.out.trans (hD.mono k3.out.size))
              obtain ⟨-, -, s0, s1, s2, s3, s4, s5, s6⟩ := hcz.out r4 k4.out
              have h5 := hnil.out r4 k4.out
              clear hD k3 h3 b0 b1
              go_wp2_with fail
              refine h5.mono ?_
              rintro e r5 ⟨va, vc, rfl, hD⟩
              have k5 : Hid (Below w.heap.size w r5) := hidden (hC2.out.trans ((k4.out.trans (hD.mono k4.out.size)).mono hC2.out.size))
              have h6 := hlv.out r5 (.of_below k5.out)
              clear hD k4 h5 s0 s1 s2 s3 s4 s5 s6 hlv
              go_wp2_with fail
              refine h6.mono ?_
              rintro e r9 ⟨rfl, hD⟩
              have hfin : Hid (GoX.Calm w r9) := GoX.Calm.trans (.of_below k5.out) hD
              clear hD h6 k5
              go_wp2
              go_ret
              exact ⟨by first | done | rfl | simp, hfin.out⟩
      exact AllReadyH.nil
    exact AllReadyH.nil
  exact AllReadyH.nil
end Go.Proofs.Ytnmjhbnadfjapaa
