/-
  THE LAW GraphTells, with lives() as a premise.
-/
import Derived.Test.YtjgddkbpfpgaoacGreatDoorGT8
import Derived.Deep.RegionHeld3
namespace Go.Proofs.YtjgddkbpfpgaoacGreatDoor
open Go.ChangeShapes Go.WideShapes Go.ChangeAt Go.RowKit

def OnlyN (R : Act → World → Prop) : Exit → Act → World → Prop
  | .normal, a, w => R a w
  | _, _, _ => False
theorem OnlyN.mk {R : Act → World → Prop} {a : Act} {w : World} (h : R a w) : OnlyN R .normal a w := h
theorem wp_only {P : Program} {C : Code} {Q : Exit → Act → World → Prop} {a : Act} {w : World} (R : Act → World → Prop) (h : C.wp P (OnlyN R) a w) (hq : ∀ a' w', R a' w' → Q .normal a' w') : C.wp P Q a w :=
  Code.wp_mono (fun e a w h => by cases e <;> first | exact hq _ _ h | exact h.elim) h
theorem neqSelf (k n : Int) (t : ByteArray) (w : World) : (binOp .neq 29 (.agg #[.int .i64 k, .int .i64 n, .string t]) (.agg #[.int .i64 k, .int .i64 n, .string t])).run Tryz.prog w = .ok (.bool false) w := by
  rw [run_neq_struct, show (10000:Nat) = 9998+2 from rfl, neqV]
  simp [Result.andThen]
theorem slR_row {α : Type} {R : Rec α} {w : World} {a : Option Addr} {n c : Nat} {ps : List α} (h : SlR R w (.slice a n c) ps) : RowAt w a (R.flat ps) ∧ n = ps.length := by
  obtain ⟨a', c', he, _, _, _, hr⟩ := h
  simp only [Value.slice.injEq] at he
  obtain ⟨rfl, hn, _⟩ := he
  exact ⟨hr, hn⟩
/-- Both graphs, in boxes. -/
structure GT (w x : World) (g h : Gr) (gs : List NdV) (ga : Option Addr) (gn gc : Nat) (gb : Option Addr) (gm gd : Nat) (hs : List NdV) (ha : Option Addr) (hn hc : Nat) (hb : Option Addr) (hm hd : Nat) : Prop where
  box3 : x.heap[w.heap.size]? = some (.cells #[.slice ga gn gc, .slice gb gm gd] 25)
  box4 : x.heap[w.heap.size + 1]? = some (.cells #[.slice ha hn hc, .slice hb hm hd] 25)
  og : OwnG g gs ga gn gc gb gm gd x
  oh : OwnG h hs ha hn hc hb hm hd x
  below : Below w.heap.size w x
theorem GT.step {w x z : World} {g h : Gr} {gs : List NdV} {ga : Option Addr} {gn gc : Nat} {gb : Option Addr} {gm gd : Nat} {hs : List NdV} {ha : Option Addr} {hn hc : Nat} {hb : Option Addr} {hm hd : Nat} (k : GT w x g h gs ga gn gc gb gm gd hs ha hn hc hb hm hd) (hB : Below x.heap.size x z) : GT w z g h gs ga gn gc gb gm gd hs ha hn hc hb hm hd :=
  ⟨box_below k.box3 hB, box_below k.box4 hB, k.og.below hB, k.oh.below hB, k.below.trans (hB.mono k.below.size)⟩
theorem gt_store {w x : World} {g h : Gr} {gs : List NdV} {ga : Option Addr} {gn gc : Nat} {gb : Option Addr} {gm gd : Nat} {hs : List NdV} {ha : Option Addr} {hn hc : Nat} {hb : Option Addr} {hm hd : Nat} {c0 c1 d0 d1 : Value} (h3 : x.heap[w.heap.size]? = some (.cells #[c0, c1] 25)) (h4 : x.heap[w.heap.size + 1]? = some (.cells #[d0, d1] 25))
    (hg : OwnG g gs ga gn gc gb gm gd x) (hh : OwnG h hs ha hn hc hb hm hd x) (hB : Below w.heap.size w x) :
    GT w ((((x.setCell ⟨w.heap.size, 0, none⟩ (.slice ga gn gc)).setCell ⟨w.heap.size, 1, none⟩ (.slice gb gm gd)).setCell ⟨w.heap.size + 1, 0, none⟩ (.slice ha hn hc)).setCell ⟨w.heap.size + 1, 1, none⟩ (.slice hb hm hd)) g h gs ga gn gc gb gm gd hs ha hn hc hb hm hd ∧
    GT w ((((x.setCell ⟨w.heap.size + 1, 0, none⟩ (.slice ha hn hc)).setCell ⟨w.heap.size + 1, 1, none⟩ (.slice hb hm hd)).setCell ⟨w.heap.size, 0, none⟩ (.slice ga gn gc)).setCell ⟨w.heap.size, 1, none⟩ (.slice gb gm gd)) g h gs ga gn gc gb gm gd hs ha hn hc hb hm hd := by
  have a1 := set_heap h3 0 (.slice ga gn gc)
  have a2 := set_heap a1 1 (.slice gb gm gd)
  have a4 : ((x.setCell ⟨w.heap.size, 0, none⟩ (.slice ga gn gc)).setCell ⟨w.heap.size, 1, none⟩ (.slice gb gm gd)).heap[w.heap.size + 1]? = some (.cells #[d0, d1] 25) := set_oth (set_oth h4 (by omega) _ _) (by omega) _ _
  have a5 := set_heap a4 0 (.slice ha hn hc)
  have a6 := set_heap a5 1 (.slice hb hm hd)
  have b1 := set_heap h4 0 (.slice ha hn hc)
  have b2 := set_heap b1 1 (.slice hb hm hd)
  have b4 : ((x.setCell ⟨w.heap.size + 1, 0, none⟩ (.slice ha hn hc)).setCell ⟨w.heap.size + 1, 1, none⟩ (.slice hb hm hd)).heap[w.heap.size]? = some (.cells #[c0, c1] 25) := set_oth (set_oth h3 (by omega) _ _) (by omega) _ _
  have b5 := set_heap b4 0 (.slice ga gn gc)
  have b6 := set_heap b5 1 (.slice gb gm gd)
  refine ⟨⟨?_, by simpa using a6, (((hg.set h3 _ _).set a1 _ _).set a4 _ _).set a5 _ _, (((hh.set h3 _ _).set a1 _ _).set a4 _ _).set a5 _ _, ?_⟩, ⟨by simpa using b6, ?_, (((hg.set h4 _ _).set b1 _ _).set b4 _ _).set b5 _ _, (((hh.set h4 _ _).set b1 _ _).set b4 _ _).set b5 _ _, ?_⟩⟩
  · exact set_oth (set_oth (by simpa using a2) (by omega) _ _) (by omega) _ _
  · exact (((hB.setCell (p := ⟨w.heap.size, 0, none⟩) (Nat.le_refl _) _).setCell (p := ⟨w.heap.size, 1, none⟩) (Nat.le_refl _) _).setCell (p := ⟨w.heap.size + 1, 0, none⟩) (Nat.le_succ _) _).setCell (p := ⟨w.heap.size + 1, 1, none⟩) (Nat.le_succ _) _
  · exact set_oth (set_oth (by simpa using b2) (by omega) _ _) (by omega) _ _
  · exact (((hB.setCell (p := ⟨w.heap.size + 1, 0, none⟩) (Nat.le_succ _) _).setCell (p := ⟨w.heap.size + 1, 1, none⟩) (Nat.le_succ _) _).setCell (p := ⟨w.heap.size, 0, none⟩) (Nat.le_refl _) _).setCell (p := ⟨w.heap.size, 1, none⟩) (Nat.le_refl _) _
set_option maxHeartbeats 6400000 in
set_option maxRecDepth 100000 in
theorem law_c (G H : Gr) (na : Option Addr) (nn nc : Nat) (ea : Option Addr) (en ec : Nat) (ma : Option Addr) (mn mc : Nat) (fa : Option Addr) (fn fc : Nat) (s : ByteArray) (w : World) (hG : HoldsG w (.slice na nn nc) (.slice ea en ec) G) (hGw : G.wf) (hH : HoldsG w (.slice ma mn mc) (.slice fa fn fc) H) (hHw : H.wf)
    (hlv : ∀ x, GoX.Calm w x → Calls Tryz.prog 18 #[] x fun e w' => e = .returned (.bool true) ∧ GoX.Calm x w') :
    Calls Tryz.prog 3 #[.agg #[.slice na nn nc, .slice ea en ec], .agg #[.slice ma mn mc, .slice fa fn fc], .string s] w fun e w' => e = .returned (.bool true) ∧ GoX.Calm w w' := by
  obtain ⟨w1', w2', w3', w4'⟩ := hGw
  obtain ⟨v1', v2', v3', v4'⟩ := hHw
  unfold maxLen at w1' w3' v1' v3'
  obtain ⟨wb, hwb⟩ : ∃ wb, Hid (wb = (w.alloc (.cells #[.slice na nn nc, .slice ea en ec] 25)).alloc (.cells #[.slice ma mn mc, .slice fa fn fc] 25)) := ⟨_, hidden rfl⟩
  have hB0 : Hid (Below w.heap.size w wb) := by show Below ..; rw [hwb.out]; exact ((Below.refl _ _).alloc (Nat.le_refl _) _).alloc (by simp) _
  have hA0 : wb.heap[w.heap.size]? = some (.cells #[.slice na nn nc, .slice ea en ec] 25) := by
    rw [hwb.out]
    exact heap_alloc_old (w.alloc (.cells #[.slice na nn nc, .slice ea en ec] 25)) _ (by simp) |>.trans (heap_alloc_new w _)
  have hA1 : wb.heap[w.heap.size + 1]? = some (.cells #[.slice ma mn mc, .slice fa fn fc] 25) := by
    rw [hwb.out]
    exact heap_new2 w _ _
  have hf1 : Hid (∀ z, Below wb.heap.size wb z → Calls Tryz.prog 4 #[.agg #[.slice na nn nc, .slice ea en ec]] z fun e w' => ∃ (us : List NdV) (a' : Option Addr) (n' c' : Nat) (b' : Option Addr) (m' d' : Nat), e = .returned (.agg #[.slice a' n' c', .slice b' m' d']) ∧ OwnG G.few us a' n' c' b' m' d' w' ∧ Below z.heap.size z w') := fun z hz =>
    (gfew_c G _ _ z ((hG.below hB0.out).below hz) (by omega) (by omega) (fun x hx => by have := (w2' x hx).1; unfold maxLen at this; omega)).mono fun e w' ⟨us, a', n', c', b', m', d', he, h1, h2, hB⟩ => ⟨us, a', n', c', b', m', d', he, ⟨h1, h2⟩, hB⟩
  have hf2 : Hid (∀ z, Below wb.heap.size wb z → Calls Tryz.prog 4 #[.agg #[.slice ma mn mc, .slice fa fn fc]] z fun e w' => ∃ (us : List NdV) (a' : Option Addr) (n' c' : Nat) (b' : Option Addr) (m' d' : Nat), e = .returned (.agg #[.slice a' n' c', .slice b' m' d']) ∧ OwnG H.few us a' n' c' b' m' d' w' ∧ Below z.heap.size z w') := fun z hz =>
    (gfew_c H _ _ z ((hH.below hB0.out).below hz) (by omega) (by omega) (fun x hx => by have := (v2' x hx).1; unfold maxLen at this; omega)).mono fun e w' ⟨us, a', n', c', b', m', d', he, h1, h2, hB⟩ => ⟨us, a', n', c', b', m', d', he, ⟨h1, h2⟩, hB⟩
  have hff := hidden (Gr.few_few G)
  have hsm := hidden (Gr.few_sm G)
  have hfn := hidden (few_names G)
  have hff2 := hidden (Gr.few_few H)
  have hsm2 := hidden (Gr.few_sm H)
  generalize G.few = g at *
  generalize H.few = h at *
  have hcut := hidden fun z => cut_c s 35 z (by decide)
  generalize cutB s 35 = t at *
  replace hlv := hidden hlv
  obtain ⟨⟨x0, x1⟩, -⟩ := box2f (x := wb.drew) hA0
  obtain ⟨⟨y0, y1⟩, -⟩ := box2f (x := wb.drew) hA1
  have kk : Hid (Below wb.heap.size wb wb.drew) := (Below.refl _ _).drew
  replace hA0 := hidden hA0
  replace hA1 := hidden hA1
  clear hG hH w1' w2' w3' w4' v1' v2' v3' v4'
  go_enter Tryz.func3, Tryz.ntmps3
  go_wp2_with fail
  rw [← hwb.out]
  obtain ⟨R, hR⟩ : ∃ R : Act → World → Prop, Hid (∀ a' x, R a' x ↔ (∃ gs ga gn gc gb gm gd hs ha hn hc hb hm hd, a' = ({ tmps := List.toArray ((.agg #[.slice na nn nc, .slice ea en ec]) :: (.agg #[.slice ma mn mc, .slice fa fn fc]) :: (.string t) :: (.pointer (some ⟨w.heap.size, 0, none⟩)) :: (.pointer (some ⟨w.heap.size + 1, 0, none⟩)) :: undef :: (.bool false) :: undef :: undef :: undef :: (.agg #[.slice na nn nc, .slice ea en ec]) :: (.agg #[.slice ga gn gc, .slice gb gm gd]) :: (.agg #[.slice ma mn mc, .slice fa fn fc]) :: (.agg #[.slice ha hn hc, .slice hb hm hd]) :: (.string s) :: (.string t) :: undef :: undef :: undef :: undef :: undef :: undef :: undef :: undef :: undef :: undef :: undef :: undef :: undef :: undef :: undef :: undef :: undef :: undef :: undef :: undef :: undef :: undef :: undef :: undef :: undef :: undef :: undef :: undef :: undef :: undef :: undef :: undef :: undef :: undef :: undef :: undef :: undef :: undef :: undef :: undef :: undef :: undef :: undef :: undef :: undef :: undef :: undef :: undef :: undef :: undef :: undef :: undef :: undef :: undef :: undef :: undef :: undef :: undef :: undef :: undef :: undef :: undef :: undef :: undef :: undef :: undef :: undef :: undef :: undef :: undef :: undef :: undef :: undef :: undef :: undef :: undef :: undef :: undef :: undef :: undef :: undef :: undef :: undef :: undef :: undef :: undef :: undef :: undef :: undef :: undef :: undef :: undef :: undef :: undef :: undef :: undef :: undef :: undef :: undef :: undef :: undef :: undef :: undef :: undef :: []), defers := [] } : Act) ∧ GT w x g h gs ga gn gc gb gm gd hs ha hn hc hb hm hd)) := ⟨_, hidden fun _ _ => Iff.rfl⟩
  refine wp_only R ?h ?hq
  case h =>
   go_region_with (first
     | (go_at_call_of 4 (Value.agg #[.slice na nn nc, .slice ea en ec]); refine (hf1.out _ kk.out).mono ?_; rintro e z1 ⟨gs, ga, gn, gc, gb, gm, gd, rfl, hO1, hB1⟩
        have kk := hidden (kk.out.trans (hB1.mono kk.out.size))
        have hO1 := hidden hO1
        obtain ⟨⟨x0, x1⟩, -⟩ := box2f (box_below hA0.out kk.out)
        obtain ⟨⟨y0, y1⟩, -⟩ := box2f (box_below hA1.out kk.out))
     | (go_at_call_of 4 (Value.agg #[.slice ma mn mc, .slice fa fn fc]); refine (hf2.out _ kk.out).mono ?_; rintro e z2 ⟨hs, ha, hn, hc, hb, hm, hd, rfl, hO2, hB2⟩
        have kk := hidden (kk.out.trans (hB2.mono kk.out.size))
        have hO1 := hidden (hO1.out.below hB2)
        have hO2 := hidden hO2
        obtain ⟨⟨x0, x1⟩, f0, f1⟩ := box2f (box_below hA0.out kk.out)
        obtain ⟨⟨y0, y1⟩, f2, f3⟩ := box2f (box_below hA1.out kk.out))
     | (go_at_call 5; refine (hcut.out _).mono ?_; rintro e z3 ⟨rfl, rfl⟩)
     | fail)
   all_goals
    refine (hR.out _ _).2 ⟨gs, ga, gn, gc, gb, gm, gd, hs, ha, hn, hc, hb, hm, hd, rfl, ?_⟩
    first
      | exact (gt_store (box_below hA0.out kk.out) (box_below hA1.out kk.out) hO1.out hO2.out (hB0.out.trans (kk.out.mono hB0.out.size))).1
      | exact (gt_store (box_below hA0.out kk.out) (box_below hA1.out kk.out) hO1.out hO2.out (hB0.out.trans (kk.out.mono hB0.out.size))).2
  case hq =>
   intro a' x hx
   obtain ⟨gs, ga, gn, gc, gb, gm, gd, hs, ha, hn, hc, hb, hm, hd, rfl, hT⟩ := (hR.out _ _).1 hx
   clear hx hR
   replace hT := hidden hT
   clear x0 x1 y0 y1 kk hA0 hA1 hf1 hf2 hcut hB0 hwb
   obtain ⟨hgn, hgm⟩ := hT.out.og.len
   replace hgn := hidden hgn
   replace hgm := hidden hgm
   have hN0 : gn ≤ 1000 := by rw [hgn.out]; exact hsm.out.1
   have hM0 : gm ≤ 1000 := by rw [hgm.out]; exact hsm.out.2.2.1
   go_wp2_with fail
   go_loopw [7] (fun i y => ∃ k : Nat, k ≤ gn ∧ i = .int .i64 k ∧ Hid (GT w y g h gs ga gn gc gb gm gd hs ha hn hc hb hm hd)) (fun i _ => gn - (intOf i).toNat)
   case atStart => exact ⟨0, Nat.zero_le _, rfl, hT⟩
   case round =>
    clear hT
    obtain ⟨k, hk, rfl, hT⟩ := hrel
    obtain ⟨⟨x0, x1⟩, -⟩ := box2f hT.out.box3
    by_cases hlt : k < gn
    · have hlt' : (k : Int) < (gn : Int) := by omega
      have hkn : k < g.ns.length := by rw [← hgn.out]; exact hlt
      obtain ⟨B1, o1, pa, pn, pc, rfl, hb1, c0, c1, hps⟩ := hT.out.og.node hkn
      obtain ⟨hpr, rfl⟩ := slR_row hps
      have hpl : Hid ((g.ns.getD k Nd.none).ps.length ≤ 1000000) := by
        have h1 := (hsm.out.2.1 (g.ns.getD k Nd.none) (by
          rw [show g.ns.getD k Nd.none = g.ns[k] by simp [List.getD, hkn]]
          exact List.getElem_mem _)).2.1
        show _ ≤ _
        omega
      have hfew := hidden fun z hz => few_b g gs _ gn gc gb gm gd z (hT.out.step (z := z) hz).og hff.out hsm.out
      have hnode := hidden fun (z : World) us a' n' c' b' m' d' (hO : OwnG g us a' n' c' b' m' d' z) => hO.node hkn
      generalize (g.ns.getD k Nd.none).l = l at *
      generalize (g.ns.getD k Nd.none).ps = ps at *
      have hcmp := fun z => neqSelf (pv ps t).k (pv ps t).n (pv ps t).t z
      have hpc := hidden fun (qa : Option Addr) (qc : Nat) z (hr : RowAt z qa (propR.flat ps)) => prop_c l t ps qa qc z hr hpl.out
      have hrpc := hidden fun (qa : Option Addr) (qc : Nat) z (hr : RowAt z qa (propR.flat ps)) => rprop_c l t ps qa qc z hr hpl.out
      generalize (pv ps t).k = vk at *
      generalize (pv ps t).n = vn at *
      generalize (pv ps t).t = vt at *
      obtain ⟨P, hP⟩ : ∃ P, Hid (P = ps.length) := ⟨_, hidden rfl⟩
      rw [← hP.out] at hpc hrpc c1 hpl
      replace hpr := hidden hpr
      have kk : Hid (Below wr.heap.size wr wr.drew) := (Below.refl _ _).drew
      have hc0 := hidden c0
      have hc1 := hidden c1
      have hbb := hidden hb1
      have hfd : ∀ (u v : Value) (z : World), (Instr.field 25 (.agg #[u, v]) 0).run Tryz.prog z = .ok u z := fun _ _ _ => by kernel_rfl
      go_wp2_with fail
      go_region_with (first
        | (go_at_call 4; refine (hfew.out _ kk.out).mono ?_; rintro e z1 ⟨us, a2, n2, c2, b2, m2, d2, rfl, hO, hB1⟩
           have kk : Hid (Below wr.heap.size wr z1) := kk.out.trans (hB1.mono kk.out.size)
           obtain ⟨⟨p0, p1⟩, -⟩ := box2f (hT.out.step kk.out).box3
           have r0 := (kk.out.cell (p := ⟨B1, o1 + k * 2, none⟩) hbb.out).trans hc0.out
           have r1 := (kk.out.cell (p := ⟨B1, o1 + k * 2 + 1, none⟩) hbb.out).trans hc1.out
           have hn2 := hO.len.1
           obtain ⟨B2, o2, qa, qn, qc, rfl, hb2, e0, e1, hq2⟩ := hnode.out z1 us a2 n2 c2 b2 m2 d2 hO
           obtain ⟨hqr, hqn⟩ := slR_row hq2
           rw [← hP.out] at hqn
           subst hqn
           replace hqr := hidden hqr
           rw [← hgn.out] at hn2
           subst hn2)
        | (go_at_call 6; refine (hpc.out _ _ _ hqr.out).mono ?_; rintro e z2 ⟨rfl, hB2⟩
           have kk : Hid (Below wr.heap.size wr z2) := kk.out.trans (hB2.mono kk.out.size)
           obtain ⟨⟨s0, s1⟩, -⟩ := box2f (hT.out.step kk.out).box3
           have u0 := (kk.out.cell (p := ⟨B1, o1 + k * 2, none⟩) hbb.out).trans hc0.out
           have u1 := (kk.out.cell (p := ⟨B1, o1 + k * 2 + 1, none⟩) hbb.out).trans hc1.out)
        | (go_at_call 7; refine (hrpc.out _ _ _ (hpr.out.below kk.out)).mono ?_; rintro e z3 ⟨rfl, hB3⟩
           have kk : Hid (Below wr.heap.size wr z3) := kk.out.trans (hB3.mono kk.out.size)
           obtain ⟨⟨t0, t1⟩, -⟩ := box2f (hT.out.step kk.out).box3
           have v0 := (kk.out.cell (p := ⟨B1, o1 + k * 2, none⟩) hbb.out).trans hc0.out
           have v1 := (kk.out.cell (p := ⟨B1, o1 + k * 2 + 1, none⟩) hbb.out).trans hc1.out)
        | fail)
      all_goals
        have hTn := hidden (hT.out.step kk.out)
        clear hT kk hfew hnode hpc hrpc hcmp x0 x1 c0 c1 hc0 hc1
        go_wp2
        go_roundw
        case rel => exact ⟨k + 1, by omega, by go_num, hTn⟩
        case measure => simp [intOf]; omega
    · have hlt' : ¬ (k : Int) < (gn : Int) := by omega
      rename World => wq
      obtain ⟨⟨x0, x1⟩, -⟩ := box2f hT.out.box3
      have hfs := few_s g gs ga gn gc gb gm gd wq hT.out.og hff.out hsm.out
      rw [← hgn.out, ← hgm.out] at hfs
      go_wp2_with fail
      refine hfs.mono ?_
      rintro e z ⟨us, ta, tc, tb, td, rfl, hn8, he8, hB8⟩
      have hT8 : Hid (T8 wq (z.alloc (.cells #[.slice ta gn tc, .slice tb gm td] 25)) z.heap.size ta tc tb td us g.ns (turnTo g.es 0)) := by
        show T8 ..
        rw [show turnTo g.es 0 = g.es by simp [turnTo]]
        refine ⟨hB8.alloc hB8.size _, by rw [← hgn.out, ← hgm.out]; exact heap_alloc_new _ _, ?_, ?_⟩
        · rw [← hgn.out]; exact hn8.step ((Below.refl _ _).alloc (Nat.le_refl _) _)
        · rw [← hgm.out]; exact he8.alloc _
      have hbx : Hid (∀ (y : World) (b8 : Nat) (k : Nat), T8 wq y b8 ta tc tb td us g.ns (turnTo g.es k) → y.heap[b8]? = some (.cells #[.slice ta gn tc, .slice tb gm td] 25)) := fun y b8 k h => by
        have h1 := h.box
        rwa [turnTo_len, ← hgn.out, ← hgm.out] at h1
      clear hfs x0 x1 hn8 he8
      have hz8 : Hid (wq.heap.size ≤ z.heap.size) := hB8.size
      clear hB8
      go_wp2_with fail
      generalize z.alloc (.cells #[.slice ta gn tc, .slice tb gm td] 25) = x8 at hT8 ⊢
      generalize z.heap.size = b8 at hT8 hz8 ⊢
      go_loopw [9] (fun i y => ∃ k : Nat, k ≤ gm ∧ i = .int .i64 k ∧ Hid (T8 wq y b8 ta tc tb td us g.ns (turnTo g.es k))) (fun i _ => gm - (intOf i).toNat)
      case atStart => exact ⟨0, Nat.zero_le _, rfl, hT8⟩
      case round =>
        clear hT8
        obtain ⟨j, hj, rfl, hT8⟩ := hrel
        obtain ⟨⟨x0, x1⟩, -⟩ := box2f (hbx.out _ _ _ hT8.out)
        by_cases hlt2 : j < gm
        · have hlt2' : (j : Int) < (gm : Int) := by omega
          have hlE : j < g.es.length := by rw [← hgm.out]; exact hlt2
          have hlT : j < (turnTo g.es j).length := by rw [turnTo_len]; exact hlE
          obtain ⟨E, rfl, hE1, hE2, hE3, c0, c1, c2, c3, hfz⟩ := hT8.out.edgeAt hlT
          have hnx := hidden (hT8.out.edge hlT (g.es.getD j Eg.none).t (g.es.getD j Eg.none).f)
          have f0 := hfz (j * 4)
          have f1 := hfz (j * 4 + 1)
          have hnx2 : Hid (∀ y, T8 wq y b8 ta tc (some ⟨E, 0, none⟩) td us g.ns ((turnTo g.es j).set j ⟨(g.es.getD j Eg.none).t, (g.es.getD j Eg.none).f, ((turnTo g.es j).getD j Eg.none).l, ((turnTo g.es j).getD j Eg.none).w⟩) → T8 wq y b8 ta tc (some ⟨E, 0, none⟩) td us g.ns (turnTo g.es (j + 1))) := fun y h => by
            rw [turnTo_at g.es hlE] at h
            have e := turnTo_next g.es hlE
            unfold Eg.turn at e
            rwa [e] at h
          replace hnx := hidden (hnx2.out _ hnx.out)
          rw [turnTo_at g.es hlE] at c0 c1
          generalize (g.es.getD j Eg.none).f = qf at *
          generalize (g.es.getD j Eg.none).t = qt at *
          have n1 : ¬ E = b8 := hE3
          have n2 : ¬ b8 = E := fun e => hE3 e.symm
          clear c2 c3 hfz hnx2 hE1 hE2
          go_wp2_with fail
          go_region
          all_goals
            have hTn : Hid (T8 wq ((wr.setCell ⟨E, j * 4, none⟩ (.int .i64 qt)).setCell ⟨E, j * 4 + 1, none⟩ (.int .i64 qf)).drew b8 ta tc (some ⟨E, 0, none⟩) td us g.ns (turnTo g.es (j + 1))) := hnx.out.step (Below.refl _ _).drew
            clear hT8 hnx x0 x1 c0 c1 f0 f1
            go_wp2
            go_roundw
            case rel => exact ⟨j + 1, by omega, by go_num, hTn⟩
            case measure => simp [intOf]; omega
        · have hlt2' : ¬ (j : Int) < (gm : Int) := by omega
          have hTt : Hid (T8 wq wr b8 ta tc tb td us g.turn.ns g.turn.es) := by
            have h := hT8.out
            rwa [show j = g.es.length by rw [← hgm.out]; omega, turnTo_all] at h
          have hGT := hidden (hT.out.step hT8.out.below)
          have hb8x : Hid (wr.heap[b8]? = some (.cells #[.slice ta gn tc, .slice tb gm td] 25)) := hbx.out _ _ _ hT8.out
          clear hT hT8 hbx
          have hg0 := hidden fun (z : World) (hz : Below wr.heap.size wr z) => hGT.out.step hz
          have ht0 : Hid (∀ z, Below wr.heap.size wr z → OwnG g.turn us ta gn tc tb gm td z) := fun z hz => by
            have h1 := (hTt.step hz).own
            rw [show g.turn.ns.length = gn from hgn.out.symm, show g.turn.es.length = gm by rw [hgm.out]; simp [Gr.turn]] at h1
            exact h1
          have hcz : Hid (∀ z, Below wr.heap.size wr z → z.cell? ⟨w.heap.size, 0, none⟩ = some (.slice ga gn gc) ∧ z.cell? ⟨w.heap.size, 1, none⟩ = some (.slice gb gm gd) ∧ z.cell? ⟨w.heap.size + 1, 0, none⟩ = some (.slice ha hn hc) ∧ z.cell? ⟨w.heap.size + 1, 1, none⟩ = some (.slice hb hm hd) ∧ z.cell? ⟨b8, 0, none⟩ = some (.slice ta gn tc) ∧ z.cell? ⟨b8, 1, none⟩ = some (.slice tb gm td)) := fun z hz => by
            obtain ⟨⟨a0, a1⟩, -⟩ := box2f (hGT.out.step hz).box3
            obtain ⟨⟨a2, a3⟩, -⟩ := box2f (hGT.out.step hz).box4
            obtain ⟨⟨a4, a5⟩, -⟩ := box2f (box_below hb8x.out hz)
            exact ⟨a0, a1, a2, a3, a4, a5⟩
          have kk : Hid (Below wr.heap.size wr wr.drew) := (Below.refl _ _).drew
          obtain ⟨y0, y1, y2, y3, y4, y5⟩ := hcz.out wr (Below.refl _ _)
          have hgg : eqB g g = true := eqB_yes rfl
          have htt : eqB g.turn g.turn = true := eqB_yes rfl
          clear hTt
          go_wp2_with fail
          go_region_held3 (fun z => z.cell? ⟨w.heap.size, 0, none⟩ = some (.slice ga gn gc) ∧ z.cell? ⟨w.heap.size, 1, none⟩ = some (.slice gb gm gd) ∧ z.cell? ⟨w.heap.size + 1, 0, none⟩ = some (.slice ha hn hc) ∧ z.cell? ⟨w.heap.size + 1, 1, none⟩ = some (.slice hb hm hd) ∧ z.cell? ⟨b8, 0, none⟩ = some (.slice ta gn tc) ∧ z.cell? ⟨b8, 1, none⟩ = some (.slice tb gm td)) (go_keep) (first
            | (go_at_call_of 4 (Value.agg #[.slice ga gn gc, .slice gb gm gd]); refine (few_b g gs ga gn gc gb gm gd _ (hg0.out _ kk.out).og hff.out hsm.out).mono ?_; rintro e z1 ⟨us9, a9, n9, c9, b9, m9, d9, rfl, hO9, hBz⟩
               have kk : Hid (Below wr.heap.size wr z1) := kk.out.trans (hBz.mono kk.out.size)
               obtain ⟨p0, p1, p2, p3, p4, p5⟩ := hcz.out z1 kk.out
               first | have oP := hidden (oG.out.below hBz) | skip
               have oG := hidden hO9)
            | (go_at_call_of 4 (Value.agg #[.slice ha hn hc, .slice hb hm hd]); refine (few_b h hs ha hn hc hb hm hd _ (hg0.out _ kk.out).oh hff2.out hsm2.out).mono ?_; rintro e z2 ⟨us9, a9, n9, c9, b9, m9, d9, rfl, hO9, hBz⟩
               have kk : Hid (Below wr.heap.size wr z2) := kk.out.trans (hBz.mono kk.out.size)
               obtain ⟨q0, q1, q2, q3, q4, q5⟩ := hcz.out z2 kk.out
               first | have oP := hidden (oG.out.below hBz) | skip
               have oG := hidden hO9)
            | (go_at_call 9; refine (turn_b g _ _ _ _ _ _ _ _ oG.out hsm.out).mono ?_; rintro e z3 ⟨us8, a8, n8, c8, b8', m8, d8, rfl, hO8, hBz⟩
               have kk : Hid (Below wr.heap.size wr z3) := kk.out.trans (hBz.mono kk.out.size)
               obtain ⟨r0, r1, r2, r3, r4, r5⟩ := hcz.out z3 kk.out
               have oT := hidden hO8)
            | (go_at_call_of 8 (Value.agg #[.slice ga gn gc, .slice gb gm gd]); refine (rsame_b g h gs hs ga gn gc gb gm gd ha hn hc hb hm hd _ (hg0.out _ kk.out).og (hg0.out _ kk.out).oh hsm.out).mono ?_; rintro e z4 ⟨rfl, hBz⟩
               have kk : Hid (Below wr.heap.size wr z4) := kk.out.trans (hBz.mono kk.out.size)
               obtain ⟨s0, s1, s2, s3, s4, s5⟩ := hcz.out z4 kk.out)
            | (go_at_call 8; refine (rsame_b g.turn g.turn _ us _ _ _ _ _ _ ta gn tc tb gm td _ oT.out (ht0.out _ kk.out) (Gr.turn_sm hsm.out)).mono ?_; rintro e z5 ⟨rfl, hBz⟩
               have kk : Hid (Below wr.heap.size wr z5) := kk.out.trans (hBz.mono kk.out.size)
               obtain ⟨t0, t1, t2, t3, t4, t5⟩ := hcz.out z5 kk.out)
            | (go_at_call 10; refine (same_b g _ _ _ _ _ _ _ _ _ _ _ _ _ _ _ _ oP.out oG.out hsm.out).mono ?_; rintro e z6 ⟨rfl, hBz⟩
               have kk : Hid (Below wr.heap.size wr z6) := kk.out.trans (hBz.mono kk.out.size)
               obtain ⟨u0, u1, u2, u3, u4, u5⟩ := hcz.out z6 kk.out)
            | fail)
          all_goals
            have kk := hidden kk.out.drew
            obtain ⟨y0, y1, y2, y3, y4, y5⟩ := hcz.out _ kk.out
            clear oP oG oT ht0 hgg htt hff2 hsm2
            go_wp2_with fail
            go_region_held3 (fun z => z.cell? ⟨w.heap.size, 0, none⟩ = some (.slice ga gn gc) ∧ z.cell? ⟨w.heap.size, 1, none⟩ = some (.slice gb gm gd) ∧ z.cell? ⟨w.heap.size + 1, 0, none⟩ = some (.slice ha hn hc) ∧ z.cell? ⟨w.heap.size + 1, 1, none⟩ = some (.slice hb hm hd) ∧ z.cell? ⟨b8, 0, none⟩ = some (.slice ta gn tc) ∧ z.cell? ⟨b8, 1, none⟩ = some (.slice tb gm td)) (go_keep) (first
            | (go_at_call 4; refine (few_b g gs ga gn gc gb gm gd _ (hg0.out _ kk.out).og hff.out hsm.out).mono ?_; rintro e z1 ⟨us9, a9, n9, c9, b9, m9, d9, rfl, hO9, hBz⟩
               have kk : Hid (Below wr.heap.size wr z1) := kk.out.trans (hBz.mono kk.out.size)
               obtain ⟨p0, p1, p2, p3, p4, p5⟩ := hcz.out z1 kk.out
               have oG := hidden hO9)
            | (go_at_call 12; refine (labels_b g _ _ _ _ _ _ _ _ oG.out hsm.out).mono ?_; rintro e z2 ⟨qL, L1, cL, rfl, hTo, hRo, hBz⟩
               have kk : Hid (Below wr.heap.size wr z2) := kk.out.trans (hBz.mono kk.out.size)
               obtain ⟨q0, q1, q2, q3, q4, q5⟩ := hcz.out z2 kk.out
               have hTo := hidden hTo
               have hRo := hidden hRo)
            | (go_at_call 14; refine (kinds_b g _ _ _ _ _ _ _ _ oG.out hsm.out).mono ?_; rintro e z2 ⟨qL, L1, cL, rfl, hTo, hRo, hBz⟩
               have kk : Hid (Below wr.heap.size wr z2) := kk.out.trans (hBz.mono kk.out.size)
               obtain ⟨q0, q1, q2, q3, q4, q5⟩ := hcz.out z2 kk.out
               have hTo := hidden hTo
               have hRo := hidden hRo)
            | (go_at_call 16; refine (names_b g _ _ _ _ _ _ _ _ oG.out hsm.out hfn.out).mono ?_; rintro e z2 ⟨qL, L1, cL, rfl, hTo, hRo, hBz⟩
               have kk : Hid (Below wr.heap.size wr z2) := kk.out.trans (hBz.mono kk.out.size)
               obtain ⟨q0, q1, q2, q3, q4, q5⟩ := hcz.out z2 kk.out
               have hTo := hidden hTo
               have hRo := hidden hRo)
            | (go_at_call 13; refine (rlabels_b g gs ga gn gc gb gm gd _ (hg0.out _ kk.out).og hsm.out).mono ?_; rintro e z3 ⟨qR, L2, cR, rfl, hTr, hRr, hLn, hBz⟩
               have kk : Hid (Below wr.heap.size wr z3) := kk.out.trans (hBz.mono kk.out.size)
               obtain ⟨r0, r1, r2, r3, r4, r5⟩ := hcz.out z3 kk.out
               have hRo := hidden (hRo.out.below hBz)
               obtain rfl := hTo.out.one hTr
               have hRr := hidden hRr
               have hLn := hidden hLn)
            | (go_at_call 15; refine (rkinds_b g gs ga gn gc gb gm gd _ (hg0.out _ kk.out).og hsm.out).mono ?_; rintro e z3 ⟨qR, L2, cR, rfl, hTr, hRr, hLn, hBz⟩
               have kk : Hid (Below wr.heap.size wr z3) := kk.out.trans (hBz.mono kk.out.size)
               obtain ⟨r0, r1, r2, r3, r4, r5⟩ := hcz.out z3 kk.out
               have hRo := hidden (hRo.out.below hBz)
               obtain rfl := hTo.out.one hTr
               have hRr := hidden hRr
               have hLn := hidden hLn)
            | (go_at_call 17; refine (rnames_b g gs ga gn gc gb gm gd _ (hg0.out _ kk.out).og hsm.out hfn.out).mono ?_; rintro e z3 ⟨qR, L2, cR, rfl, hTr, hRr, hLn, hBz⟩
               have kk : Hid (Below wr.heap.size wr z3) := kk.out.trans (hBz.mono kk.out.size)
               obtain ⟨r0, r1, r2, r3, r4, r5⟩ := hcz.out z3 kk.out
               have hRo := hidden (hRo.out.below hBz)
               obtain rfl := hTo.out.one hTr
               have hRr := hidden hRr
               have hLn := hidden hLn)
            | (go_at_call 11; refine (sameT_c _ _ _ _ _ _ hRo.out hRr.out hLn.out).mono ?_; rintro e z4 ⟨rfl, hBz⟩
               have kk : Hid (Below wr.heap.size wr z4) := kk.out.trans (hBz.mono kk.out.size)
               obtain ⟨s0, s1, s2, s3, s4, s5⟩ := hcz.out z4 kk.out)
            | (go_at_call 18; refine (hlv.out _ (.of_below (hg0.out _ kk.out).below)).mono ?_; rintro e zl ⟨rfl, hCl⟩
               have hCf := hidden ((GoX.Calm.of_below (hg0.out _ kk.out).below).trans hCl)
               obtain ⟨⟨l0, l1⟩, -⟩ := box2f (box_calm (hg0.out _ kk.out).box3 hCl)
               obtain ⟨⟨l2, l3⟩, -⟩ := box2f (box_calm (hg0.out _ kk.out).box4 hCl)
               obtain ⟨⟨l4, l5⟩, -⟩ := box2f (box_calm (box_below hb8x.out kk.out) hCl))
            | fail)
            all_goals
              clear hcz hg0 kk
              go_wp2
              go_ret
              exact ⟨rfl, hCf.out⟩
end Go.Proofs.YtjgddkbpfpgaoacGreatDoor
