/-
  WHAT LAWS OVER A GRAPH's ROWS SHARE: a graph taken once more, checked; the reference's row and step as the program's rows tell them; a step's arcs are in order.
-/
import Derived.Test.YtikajhpgoehboaaCsRStep
import Derived.Test.YtikajhpgoehboaaGRCheck
import Derived.Test.YtikajhpgoehboaaCsNew
import Derived.Test.YtikajhpgoehboaaPEdge2
import Derived.Test.YtikajhpgoehboaaPGood
import Derived.Deep.RegionHeld3
namespace Go.Proofs.Ytikajhpgoehboaa
open Go.ChangeShapes Go.WideShapes Go.ChangeAt Go.RowKit Go.Maps

theorem cell_str {P : Program} {w : World} {r : Reach} {base : Nat} {u : TypeId} {x : Value} (hu : P.underlying u = some .string) (h : Cell.okWide P w r base u x) : ∃ s, x = .string s := by
  unfold Cell.okWide at h
  rw [hu] at h
  unfold Cell.ok at h
  rw [hu] at h
  cases x <;> simp_all
theorem cell_bool {P : Program} {w : World} {r : Reach} {base : Nat} {u : TypeId} {x : Value} (hu : P.underlying u = some .bool) (h : Cell.okWide P w r base u x) : ∃ b, x = .bool b := by
  unfold Cell.okWide at h
  rw [hu] at h
  unfold Cell.ok at h
  rw [hu] at h
  cases x <;> simp_all
theorem OwnG.below {g : Gr} {vs : List NdV} {a : Option Addr} {n c : Nat} {b : Option Addr} {m d : Nat} {x y : World} (h : OwnG g vs a n c b m d x) (hB : Below x.heap.size x y) : OwnG g vs a n c b m d y := h.keep (.of_below hB)
theorem few_b (g : Gr) (vs : List NdV) (a : Option Addr) (n c : Nat) (b : Option Addr) (m d : Nat) (w : World) (hg : OwnG g vs a n c b m d w) (hf : g.few = g) (hs : g.sm) :
    Calls Try.prog 4 #[.agg #[.slice a n c, .slice b m d]] w fun e w' => ∃ (us : List NdV) (a' : Option Addr) (n' c' : Nat) (b' : Option Addr) (m' d' : Nat), e = .returned (.agg #[.slice a' n' c', .slice b' m' d']) ∧ OwnG g us a' n' c' b' m' d' w' ∧ Below w.heap.size w w' :=
  (gfew_c g _ _ w hg.holds (by have := hs.1; omega) (by have := hs.2.2.1; omega) (fun x hx => by have := (hs.2.1 x hx).2.1; omega)).mono fun e w' ⟨us, a', n', c', b', m', d', he, h1, h2, hB⟩ => by
    rw [hf] at h1 h2
    exact ⟨us, a', n', c', b', m', d', he, ⟨h1, h2⟩, hB⟩
theorem OwnG.setS {g : Gr} {vs : List NdV} {a : Option Addr} {n c : Nat} {b : Option Addr} {m d : Nat} {x : World} {B : Nat} {cs : Array Value} (h : OwnG g vs a n c b m d x) (hb : x.heap[B]? = some (.cells cs 27)) (j : Nat) (v : Value) : OwnG g vs a n c b m d (x.setCell ⟨B, j, none⟩ v) :=
  ⟨⟨own_set h.nodes.row hb (by decide) _ _, h.nodes.len, fun i hi => ⟨(h.nodes.each i hi).1, own_set (h.nodes.each i hi).2 hb (by decide) _ _⟩⟩, own_set h.edges hb (by decide) _ _⟩
theorem rggood_c (g : Gr) (vs : List NdV) (a : Option Addr) (n c : Nat) (b : Option Addr) (m d : Nat) (w : World) (hg : OwnG g vs a n c b m d w) (hs : g.sm) :
    Calls Try.prog 7 #[.agg #[.slice a n c, .slice b m d]] w fun e w' => e = .returned (.bool ((checkG g).2 == 0)) ∧ Below w.heap.size w w' := by
  have hB0 := (Below.refl w.heap.size w).alloc (Nat.le_refl _) (.cells #[.slice a n c, .slice b m d] 25)
  have hX := heap_alloc_new w (.cells #[.slice a n c, .slice b m d] 25)
  have hc := rcheck_c g vs a n c b m d _ (hg.calm hB0) hs
  obtain ⟨⟨b0, b1⟩, -⟩ := box2f hX
  replace hB0 := hidden hB0
  clear hX hg hs
  generalize (checkG g).1 = p at *
  generalize (checkG g).2 = q at *
  go_enter Try.func7, Try.ntmps7
  go_wp2_with fail
  refine hc.mono ?_
  rintro e w5 ⟨rfl, hB5⟩
  have hBL : Hid (Below w.heap.size w w5) := hB0.out.trans (hB5.mono hB0.out.size)
  clear hB5 hB0 b0 b1 hc
  go_wp2
  go_ret
  exact ⟨by first | done | rfl, hBL.out⟩
/-- A list of arcs comes back. -/
def Rets (R : List Ar) (z : World) (e : Ending) (w' : World) : Prop := ∃ (a : Option Addr) (c : Nat), e = .returned (.slice a R.length c) ∧ RowAt w' a (arR.flat R) ∧ Below z.heap.size z w'
theorem rowAr {w : World} {B : Nat} {a : Option Addr} {c : Nat} {L : List Ar} (h : w.ownsRow B 67 4 (.slice a L.length c) L.length (arR.flat L)) : RowAt w a (arR.flat L) := by
  obtain ⟨a', c', he, hr⟩ := holdsR_of_owns (R := arR) h
  simp only [Value.slice.injEq] at he
  obtain ⟨rfl, _, _⟩ := he
  exact hr
theorem sl_row {w : World} {a : Option Addr} {n c : Nat} {xs : List Value} (h : Sl w (.slice a n c) xs) : RowAt w a xs := by
  obtain ⟨a', c', he, _, _, _, hr⟩ := h
  simp only [Value.slice.injEq] at he
  obtain ⟨rfl, _, _⟩ := he
  exact hr
theorem GoodC.low {g : Gr} {C : CsX} (h : GoodC g C) (back : Bool) : ∀ p ∈ C.l back, p < g.es.length := fun p hp => ((h.ord back).2 p).1 hp
theorem GoodC.row {g : Gr} {C : CsX} (h : GoodC g C) {back : Bool} {n : Int} {Q : List Nat} (hq : RowQ (keyOf (keysA (arcsL C.L g.es back))) (whoOf g.es back) n g.es.length Q) : Q = rowI (whoOf g.es back) (C.l back) g.ns.length n :=
  hq.is (h.ord back) fun p hp => by
    cases back
    · exact (h.ed p hp).fr
    · exact (h.ed p hp).to
section
variable (g : Gr) (C : CsX) (vs : List NdV) (a : Option Addr) (N c : Nat) (b : Option Addr) (m d : Nat) (n : Int) (z : World) (hO : OwnG g vs a N c b m d z) (hok : (checkG g).2 = 0) (hs : g.sm) (hg : GoodC g C)
include hO hok hs hg
theorem rrow_r (back : Bool) : Calls Try.prog 40 #[.agg #[.slice a N c, .slice b m d], .int .i64 n, .bool back] z (Rets (rowA g C back n) z) :=
  (rrow_c g vs a N c b m d z hO hs hok n back C.L hg.strict hg.mem).mono fun e w' ⟨g', c', Q, he, hq, ho, hB⟩ => by
    have e1 : rowA g C back n = Q.map (arcOf C.L g.es back) := by rw [rowA_eq g C back n (hg.low back), hg.row hq]
    refine ⟨some ⟨g', 0, none⟩, c', by rw [he, e1, List.length_map], ?_, hB⟩
    rw [e1]
    refine rowAr (B := 0) (c := c') ?_
    rw [List.length_map]
    exact ho
theorem rstep_r (s : ByteArray) (back : Bool) : Calls Try.prog 23 #[.agg #[.slice a N c, .slice b m d], .int .i64 n, .agg #[.string s, .bool back]] z (Rets ((stepI g C back n s).map (arcOf C.L g.es back)) z) :=
  (rstep_c g vs a N c b m d z hO hs hok n s back C.L hg.strict hg.mem).mono fun e w' ⟨v, Q, he, hq, ho, hB⟩ => by
    have e1 : hasL g.es s Q = stepI g C back n s := by rw [hg.row hq]; rfl
    rw [e1] at ho
    obtain ⟨a', c', rfl, hr⟩ := ho
    exact ⟨a', c', he, hr, hB⟩
end

theorem stepI_mem {g : Gr} {C : CsX} {back : Bool} {n : Int} {s : ByteArray} {p : Nat} (hg : GoodC g C) (h : p ∈ stepI g C back n s) : p < g.es.length ∧ (g.es.getD p Eg.none).l.toList = s.toList := by
  unfold stepI at h
  obtain ⟨h1, h2⟩ := List.mem_filter.1 h
  exact ⟨hg.low back p (rowI_mem h1), of_decide_eq_true h2⟩
/-- A step's arcs are in order: by where they lead, and then by weight. -/
theorem step_sorted {g : Gr} {C : CsX} (hg : GoodC g C) (back : Bool) (n : Int) (s : ByteArray) : Sorted Ar.to Ar.wt ((stepI g C back n s).map (arcOf C.L g.es back)) := by
  unfold Sorted
  rw [List.pairwise_map]
  have h0 : (stepI g C back n s).Pairwise (KeyLt (keyOf (keysA (arcsL C.L g.es back)))) := (rowI_ord (hg.ord back)).sublist List.filter_sublist
  refine h0.imp_of_mem fun {p q} hp hq h => ?_
  obtain ⟨p1, p2⟩ := stepI_mem hg hp
  obtain ⟨q1, q2⟩ := stepI_mem hg hq
  have h2 := (key_lt p1 q1 (hg.ok back p1) (hg.ok back q1)).1 h
  have hl : (arcOf C.L g.es back p).lb = (arcOf C.L g.es back q).lb := by
    show placeL C.L (g.es.getD p Eg.none).l = placeL C.L (g.es.getD q Eg.none).l
    rw [txt_inj (p2.trans q2.symm)]
  unfold LtA at h2
  omega
theorem step_low {g : Gr} {C : CsX} (hg : GoodC g C) (back : Bool) (n : Int) (s : ByteArray) : ∀ x ∈ (stepI g C back n s).map (arcOf C.L g.es back), x.to < g.ns.length := by
  intro x hx
  obtain ⟨p, hp, rfl⟩ := List.mem_map.1 hx
  obtain ⟨h1, -⟩ := stepI_mem hg hp
  obtain ⟨q1, q2, -, -⟩ := hg.ed p h1
  show (if back = true then fromOf g.es p else toOf g.es p) < _
  split <;> assumption
theorem step_len {g : Gr} {C : CsX} (hg : GoodC g C) (back : Bool) (n : Int) (s : ByteArray) : ((stepI g C back n s).map (arcOf C.L g.es back)).length ≤ 1000 := by
  rw [List.length_map]
  have h1 : (stepI g C back n s).length ≤ (rowI (whoOf g.es back) (C.l back) g.ns.length n).length := List.length_filter_le _ _
  have h2 : (rowI (whoOf g.es back) (C.l back) g.ns.length n).length = (rowA g C back n).length := by simp [rowA]
  have h3 := rowA_len g C back n
  have h4 := (hg.ord back).len
  have h5 := hg.es
  omega
end Go.Proofs.Ytikajhpgoehboaa
/-
  THE LAW PairsEdges, with lives() as a premise.
-/
namespace Go.Proofs.Ytikajhpgoehboaa
open Go.ChangeShapes Go.WideShapes Go.ChangeAt Go.RowKit Go.Maps

set_option maxRecDepth 100000 in
theorem nonil_c (w : World) : Calls Try.prog 18 #[.pointer none] w fun e w' => e = .returned (.int .i64 0) ∧ w' = w := by
  go_enter Try.func18, Try.ntmps18
  go_wp2
  go_ret
  exact ⟨rfl, rfl⟩
set_option maxHeartbeats 1600000 in
set_option maxRecDepth 100000 in
/-- No graph has no links. -/
theorem enil_c (s : ByteArray) (back : Bool) (w : World) : Calls Try.prog 8 #[.pointer none, .agg #[.string s, .bool back]] w fun e w' => e = .returned (.slice none 0 0) ∧ Below w.heap.size w w' := by
  have hB0 : Hid (Below w.heap.size w (w.alloc (.cells #[.string s, .bool back] 27))) := (Below.refl _ _).alloc (Nat.le_refl _) _
  have hno := fun z => nonil_c z
  go_enter Try.func8, Try.ntmps8
  go_wp2_with fail
  refine (hno _).mono ?_
  rintro e w1 ⟨rfl, rfl⟩
  clear hno
  go_wp2_with fail
  generalize w.alloc (.cells #[.string s, .bool back] 27) = x at *
  go_loop [5, 12] (fun u i => u = .slice none 0 0 ∧ i = .int .i64 0) (fun _ _ => 0)
  case atStart => exact ⟨rfl, rfl⟩
  case round =>
    obtain ⟨rfl, rfl⟩ := hrel
    go_wp2
    go_ret
    exact ⟨rfl, hB0.out⟩
set_option maxHeartbeats 32000000 in
set_option maxRecDepth 100000 in
theorem lawPE_c (G : Gr) (nv ev : Value) (s : ByteArray) (back : Bool) (w : World) (hG : HoldsG w nv ev G) (hw : G.wf) (hlv : ∀ x, GoX.Calm w x → Calls Try.prog 9 #[] x fun e w' => e = .returned (.bool true) ∧ GoX.Calm x w') :
    Calls Try.prog 3 #[.agg #[nv, ev], .agg #[.string s, .bool back]] w fun e w' => e = .returned (.bool true) ∧ GoX.Calm w w' := by
  obtain ⟨w1', w2', w3', w4'⟩ := hw
  unfold maxLen at w1' w3'
  obtain ⟨na, nc, rfl⟩ := hG.1.slice
  obtain ⟨ea, ec, rfl, -⟩ := id hG.2
  obtain ⟨wb, hwb⟩ : ∃ wb, wb = (w.alloc (.cells #[.slice na G.ns.length nc, .slice ea G.es.length ec] 25)).alloc (.cells #[.string s, .bool back] 27) := ⟨_, rfl⟩
  have hB0 : Hid (Below w.heap.size w wb) := by rw [hwb]; exact ((Below.refl _ _).alloc (Nat.le_refl _) _).alloc (by simp) _
  have hX0 : Hid (wb.heap[w.heap.size]? = some (.cells #[.slice na G.ns.length nc, .slice ea G.es.length ec] 25)) := by
    rw [hwb]
    exact heap_alloc_old (w.alloc (.cells #[.slice na G.ns.length nc, .slice ea G.es.length ec] 25)) _ (by simp) |>.trans (heap_alloc_new w _)
  have hY0 : Hid (wb.heap[w.heap.size + 1]? = some (.cells #[.string s, .bool back] 27)) := by
    rw [hwb]; exact heap_new2' w _ _
  have hf0 := hidden (gfew_c G _ _ wb.drew (hG.below (hB0.out.drew)) (by omega) (by omega) (fun x hx => by have := (w2' x hx).1; unfold maxLen at this; omega))
  have hff := hidden (Gr.few_few G)
  have hsm := hidden (Gr.few_sm G)
  generalize G.few = g at *
  generalize G.ns.length = NL at *
  generalize G.es.length = EL at *
  have hcut := hidden fun z => cut_c s 32 z (by decide)
  clear hG w1' w2' w3' w4'
  generalize cutB s 32 = t at *
  obtain ⟨⟨b0, b1⟩, -⟩ := box2f hX0.out
  obtain ⟨⟨b2, b3⟩, -⟩ := box2f hY0.out
  go_enter Try.func3, Try.ntmps3
  go_wp2_with fail
  rw [← hwb]
  replace hwb := hidden hwb
  refine wp_region_parts (S := (fun z => z.cell? ⟨w.heap.size, 0, none⟩ = some (.slice na NL nc) ∧ z.cell? ⟨w.heap.size, 1, none⟩ = some (.slice ea EL ec) ∧ z.cell? ⟨w.heap.size + 1, 0, none⟩ = some (.string s) ∧ z.cell? ⟨w.heap.size + 1, 1, none⟩ = some (.bool back))) #[false, false, false, false, false, true, true, true] #[true, true, true, true, true, false, false, false] [5, 6, 7] 40 5 (by kernel_rfl) (by kernel_rfl) (by kernel_rfl) (by rfl) ?_ (fun hHeld => ?_)
  · go_keep
  first
    | (refine wpAnyH_take (i := 0) (v := ?_) at0 (by kernel_rfl) (by kernel_rfl) (by kernel_rfl) (fun _ _ _ h => h) (Or.inl ⟨by rfl, ?_⟩) (by assumption) ?_
       rotate_left
       · intro w hSw; (try dsimp only at hSw); go_simp; try with_reducible rfl)
    | fail "take 0"
  try simp only [Act.put, List.setIfInBounds_toArray, List.set_cons_zero, List.set_cons_succ]
  first
    | (refine wpAnyH_take (i := 2) (v := ?_) at2 (by kernel_rfl) (by kernel_rfl) (by kernel_rfl) (fun _ _ _ h => h) (Or.inl ⟨by rfl, ?_⟩) (by assumption) ?_
       rotate_left
       · intro w hSw; (try dsimp only at hSw); go_simp; try with_reducible rfl)
    | fail "take 2"
  try simp only [Act.put, List.setIfInBounds_toArray, List.set_cons_zero, List.set_cons_succ]
  first
    | (refine wpAnyH_take (i := 3) (v := ?_) at3 (by kernel_rfl) (by kernel_rfl) (by kernel_rfl) (fun _ _ _ h => h) (Or.inl ⟨by rfl, ?_⟩) (by assumption) ?_
       rotate_left
       · intro w hSw; (try dsimp only at hSw); go_simp; try with_reducible rfl)
    | fail "take 3"
  try simp only [Act.put, List.setIfInBounds_toArray, List.set_cons_zero, List.set_cons_succ]
  refine wpAnyH_ready (rs := [1]) (by kernel_rfl) (by simp) ?_
  refine AllReadyH.cons (i := 1) at1 (fun K hK => ?_) ?_
  · go_simp
    refine (hf0.out).mono ?_
    rintro e w1 ⟨vs, a, n, c, b, m, d, rfl, hN, hE, hB1⟩
    have hY1 := hidden (box_below hY0.out ((Below.refl _ _).drew.trans hB1))
    have hX1 := hidden (box_below hX0.out ((Below.refl _ _).drew.trans hB1))
    obtain ⟨⟨s0, s1⟩, fz0, fz1⟩ := box2f hX1.out
    obtain ⟨⟨s2, s3⟩, fz2, fz3⟩ := box2f hY1.out
    have hSn := And.intro s0 (And.intro s1 (And.intro s2 s3))
    refine hK.out _ _ ?_ (fun hNew => ?_)
    · exact hSn
    clear hK K hHeld
    have hHeld := hNew
    clear hNew
    try simp only [List.setIfInBounds_toArray, List.set_cons_zero, List.set_cons_succ]
    refine wpAnyH_ready (rs := [4]) (by kernel_rfl) (by simp) ?_
    refine AllReadyH.cons (i := 4) at4 (fun K hK => ?_) ?_
    · go_simp
      refine (hcut.out _).mono ?_
      rintro e z9 ⟨rfl, rfl⟩
      refine hK.out _ _ ?_ (fun hNew => ?_)
      · exact hSn
      clear hK K hHeld
      have hHeld := hNew
      clear hNew
      try simp only [List.setIfInBounds_toArray, List.set_cons_zero, List.set_cons_succ]
      refine tail_list (is := [5, 6, 7]) (l := _) (by kernel_rfl) (by kernel_rfl) (by kernel_rfl) rfl ?_
      simp only [List.filterMap_cons, List.filterMap_nil, at5, at6, at7]
      show wpList _ _ _ (_ :: _) _ _
      go_wp2_with fail
      have hO1 : OwnG g vs a n c b m d z9 := ⟨hN, hE⟩
      have q1 := set_heap (set_heap hX1.out 0 (.slice a n c)) 1 (.slice b m d)
      have r1 := set_oth (set_oth hY1.out (show w.heap.size ≠ w.heap.size + 1 by omega) 0 (.slice a n c)) (show w.heap.size ≠ w.heap.size + 1 by omega) 1 (.slice b m d)
      have hO2 := hidden (((hO1.set hX1.out 0 (.slice a n c)).set (set_heap hX1.out 0 (.slice a n c)) 1 (.slice b m d)).setS r1 0 (.string t))
      have hX2 := hidden (set_oth q1 (show w.heap.size + 1 ≠ w.heap.size by omega) 0 (.string t))
      have hY2 := hidden (set_heap r1 0 (.string t))
      have hC2 := hidden ((((hB0.out.trans (((Below.refl _ _).drew.trans hB1).mono hB0.out.size)).setCell (p := ⟨w.heap.size, 0, none⟩) (Nat.le_refl _) (.slice a n c)).setCell (p := ⟨w.heap.size, 1, none⟩) (Nat.le_refl _) (.slice b m d)).setCell (p := ⟨w.heap.size + 1, 0, none⟩) (Nat.le_succ _) (.string t))
      clear hN hE hB1 hO1 q1 r1 hX1 hY1 hX0 hY0 hf0 hcut b0 b1 b2 b3 s0 s1 s2 s3 fz0 fz1 fz2 fz3 hSn
      generalize hwy : ((z9.setCell ⟨w.heap.size, 0, none⟩ (.slice a n c)).setCell ⟨w.heap.size, 1, none⟩ (.slice b m d)).setCell ⟨w.heap.size + 1, 0, none⟩ (.string t) = y at *
      clear hwy
      obtain ⟨hgn, hgm⟩ := hO2.out.len
      have hn0 : n ≤ 1000 := by rw [hgn]; exact hsm.out.1
      replace hgn := hidden hgn
      clear hgm
      have hfew := few_b g vs a n c b m d y hO2.out hff.out hsm.out
      have hgd : Hid (∀ x, Below y.heap.size y x → Calls Try.prog 7 #[.agg #[.slice a n c, .slice b m d]] x fun e w' => e = .returned (.bool ((checkG g).2 == 0)) ∧ Below x.heap.size x w') := hidden fun x h => rggood_c g vs a n c b m d x (hO2.out.below h) hsm.out
      have hXY : Hid (∀ x, Below y.heap.size y x → x.heap[w.heap.size]? = some (.cells #[.slice a n c, .slice b m d] 25) ∧ x.heap[w.heap.size + 1]? = some (.cells #[.string t, .bool back] 27)) := hidden fun x h => ⟨box_below hX2.out h, box_below hY2.out h⟩
      clear hX2 hY2
      refine hfew.mono ?_
      rintro e w2 ⟨us, a2, n2, c2, d2, m2, e2, rfl, hU, hD⟩
      have k2 : Hid (Below y.heap.size y w2) := hD
      clear hfew hD
      by_cases hok : (checkG g).2 = 0
      · have h2 := csrNew_c g us a2 n2 c2 d2 m2 e2 w2 hU hsm.out hok
        clear hU
        go_wp2_with fail
        refine h2.mono ?_
        rintro e w3 ⟨C, rfl, hCs, hD⟩
        have k3 : Hid (Below y.heap.size y w3) := k2.out.trans (hD.mono k2.out.size)
        have hgC : Hid (GoodC g C) := hCs.good hok hsm.out
        replace hCs := hidden hCs
        obtain ⟨⟨b0, b1⟩, -⟩ := box2f (hXY.out w3 k3.out).1
        have h3 := hgd.out w3 k3.out
        rw [hok] at h3
        replace hok := hidden hok
        clear hD k2 h2 hgd
        go_wp2_with fail
        refine h3.mono ?_
        rintro e w4 ⟨rfl, hD⟩
        have k4 : Hid (Below y.heap.size y w4) := k3.out.trans (hD.mono k3.out.size)
        replace hCs := hidden (hCs.out.step hD)
        clear hD k3 h3 b0 b1
        obtain ⟨⟨b2, b3⟩, -⟩ := box2f (hXY.out w4 k4.out).2
        have hE := edges_p n (fun k => (stepI g C back (k : Int) t).map (arcOf C.L g.es back)) (.pointer (some ⟨C.b, 0, none⟩)) t back w4 hn0 (fun k => step_len hgC.out back k t)
          (fun z h => hgn.out ▸ nodes_c g C _ z (hCs.out.step h))
          (fun k z h => (step_own g C _ (k : Int) t back z (hCs.out.step h) hok.out hgC.out).mono fun _ _ ⟨a, c, he, ho, hB⟩ => ⟨a, c, by rw [he, List.length_map], by rw [List.length_map]; exact ho, hB⟩)
        have hR : Hid (∀ z, Below w4.heap.size w4 z → Calls Try.prog 11 #[.agg #[.slice a n c, .slice b m d], .agg #[.string t, .bool back]] z fun e w' => ∃ a n c, e = .returned (.slice a n c) ∧ SlR linkR w' (.slice a n c) (lks g.ns.length (fun k => (stepI g C back (k : Int) t).map (arcOf C.L g.es back))) ∧ Below z.heap.size z w') := hidden fun z h =>
          (redges_p n (fun k => (stepI g C back (k : Int) t).map (arcOf C.L g.es back)) a c b m d t back z hn0 (fun k => step_len hgC.out back k t)
            (fun k x hx => rstep_r g C vs a n c b m d (k : Int) x (hO2.out.below (k4.out.trans ((h.trans (hx.mono h.size)).mono k4.out.size))) hok.out hsm.out hgC.out t back)).mono fun _ _ ⟨a, n', c, he, hs, hB⟩ => ⟨a, n', c, he, by
              rw [lks_eq _ _ (fun k _ => step_sorted hgC.out back k t) (fun k _ => step_low hgC.out back k t), ← hgn.out]; exact hs, hB⟩
        have hgoodL : Hid (∀ v z, HoldsR linkR z v (lks g.ns.length (fun k => (stepI g C back (k : Int) t).map (arcOf C.L g.es back))) → Calls Try.prog 12 #[v] z fun e w' => e = .returned (.bool true) ∧ Below z.heap.size z w') := hidden fun v z h => by
          have hl := lks_len g.ns.length (fun k => (stepI g C back (k : Int) t).map (arcOf C.L g.es back)) (fun k => step_len hgC.out back k t)
          have hn1 := hgC.out.ns
          refine pgood_c v _ z h (by omega) ?_ ?_
          · rw [lks_eq _ _ (fun k _ => step_sorted hgC.out back k t) (fun k _ => step_low hgC.out back k t)]
            intro p hp
            obtain ⟨i, j, k, hi, hj, rfl⟩ := rlks_mem _ _ p hp
            exact ⟨by show (0 : Int) ≤ (i : Nat); omega, by show ((i : Nat) : Int) < 10000; omega, by show (0 : Int) ≤ (j : Nat); omega, by show ((j : Nat) : Int) < 10000; omega, by show (0 : Int) ≤ (k : Nat); omega, by show (1 : Int) ≤ 1; decide, by show (1 : Int) ≤ 4611686018427387904; decide⟩
          · rw [lks_eq _ _ (fun k _ => step_sorted hgC.out back k t) (fun k _ => step_low hgC.out back k t)]
            exact rlks_rise _ _
        have hlen : Hid ((lks g.ns.length (fun k => (stepI g C back (k : Int) t).map (arcOf C.L g.es back))).length ≤ 2000000) := hidden (by
          have hl := lks_len g.ns.length (fun k => (stepI g C back (k : Int) t).map (arcOf C.L g.es back)) (fun k => step_len hgC.out back k t)
          have hn1 := hgC.out.ns
          omega)
        rw [show lks n (fun k => (stepI g C back (k : Int) t).map (arcOf C.L g.es back)) = lks g.ns.length (fun k => (stepI g C back (k : Int) t).map (arcOf C.L g.es back)) by rw [hgn.out]] at hE
        generalize lks g.ns.length (fun k => (stepI g C back (k : Int) t).map (arcOf C.L g.es back)) = LK at *
        clear hCs hgC hok hgn hO2
        go_wp2_with fail
        refine hE.mono ?_
        rintro e w5 ⟨la, ln, lc, rfl, hL, hD⟩
        have k5 : Hid (Below w4.heap.size w4 w5) := hD
        replace hL := hidden hL.holds
        clear hD hE b2 b3
        obtain ⟨⟨b0, b1⟩, -⟩ := box2f (hXY.out w5 (k4.out.trans (k5.out.mono k4.out.size))).1
        obtain ⟨⟨b2, b3⟩, -⟩ := box2f (hXY.out w5 (k4.out.trans (k5.out.mono k4.out.size))).2
        have h6 := hR.out w5 k5.out
        clear hR
        go_wp2_with fail
        refine h6.mono ?_
        rintro e w6 ⟨ra, rn, rc, rfl, hM, hD⟩
        have k6 : Hid (Below w4.heap.size w4 w6) := k5.out.trans (hD.mono k5.out.size)
        replace hL := hidden (hL.out.below hD)
        have h7 := lsameW_c _ _ LK w6 hL.out hM.holds hlen.out
        clear hD h6 hM b0 b1 b2 b3 k5
        go_wp2_with fail
        refine h7.mono ?_
        rintro e w7 ⟨rfl, hD⟩
        have k7 : Hid (Below w4.heap.size w4 w7) := k6.out.trans (hD.mono k6.out.size)
        have h8 := hgoodL.out _ w7 (hL.out.below hD)
        clear hD h7 k6 hL hgoodL
        go_wp2_with fail
        refine h8.mono ?_
        rintro e w8 ⟨rfl, hD⟩
        have k8 : Hid (Below w4.heap.size w4 w8) := k7.out.trans (hD.mono k7.out.size)
        have k9 : Hid (Below w.heap.size w w8) := hC2.out.trans ((k4.out.trans (k8.out.mono k4.out.size)).mono hC2.out.size)
        have h9 := hlv w8 (.of_below k9.out)
        clear hD h8 k7 k8 hlv
        go_wp2_with fail
        refine h9.mono ?_
        rintro e w9 ⟨rfl, hD⟩
        have hfin : Hid (GoX.Calm w w9) := GoX.Calm.trans (.of_below k9.out) hD
        clear hD h9 k9
        go_wp2
        go_ret
        exact ⟨by first | done | rfl | simp, hfin.out⟩
      · have h2 := csrBad_c g us a2 n2 c2 d2 m2 e2 w2 hU hsm.out hok
        clear hU hgn hn0
        have g2 : ((checkG g).2 != 0) = true := by simp [hok]
        have g3 : ((checkG g).2 == 0) = false := by simp [hok]
        replace hok := hidden hok
        go_wp2_with fail
        refine h2.mono ?_
        rintro e w3 ⟨rfl, hD⟩
        have k3 : Hid (Below y.heap.size y w3) := k2.out.trans (hD.mono k2.out.size)
        obtain ⟨⟨b0, b1⟩, -⟩ := box2f (hXY.out w3 k3.out).1
        have h3 := hgd.out w3 k3.out
        rw [g3] at h3
        generalize (checkG g).2 = q at *
        clear hD k2 h2 hgd
        go_wp2_with fail
        refine h3.mono ?_
        rintro e w4 ⟨rfl, hD⟩
        have k4 : Hid (Below y.heap.size y w4) := k3.out.trans (hD.mono k3.out.size)
        obtain ⟨⟨b2, b3⟩, -⟩ := box2f (hXY.out w4 k4.out).2
        have h5 := enil_c t back w4
        clear hD k3 h3 b0 b1
        go_wp2_with fail
        refine h5.mono ?_
        rintro e w5 ⟨rfl, hD⟩
        have k5 : Hid (Below y.heap.size y w5) := k4.out.trans (hD.mono k4.out.size)
        have h6 := hlv w5 (.of_below (hC2.out.trans (k5.out.mono hC2.out.size)))
        clear hD k4 h5 b2 b3 hlv
        go_wp2_with fail
        refine h6.mono ?_
        rintro e w7 ⟨rfl, hD⟩
        have hfin : Hid (GoX.Calm w w7) := GoX.Calm.trans (.of_below (hC2.out.trans (k5.out.mono hC2.out.size))) hD
        clear hD k5 h6
        go_wp2
        go_ret
        exact ⟨by first | done | rfl | simp, hfin.out⟩
    exact AllReadyH.nil
  exact AllReadyH.nil
end Go.Proofs.Ytikajhpgoehboaa
