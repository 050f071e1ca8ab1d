/-
  WHAT LAWS OVER A GRAPH SHARE: taken once more, checked.
-/
import Derived.Test.YtnmjhbnadfjapaaGRCheck
import Derived.Test.YtnmjhbnadfjapaaGOwnC
import Derived.Test.YtnmjhbnadfjapaaGFew
import Derived.Test.YtnmjhbnadfjapaaTEach5
namespace Go.Proofs.Ytnmjhbnadfjapaa
open Go.ChangeShapes Go.WideShapes Go.ChangeAt Go.RowKit

theorem cell_str {P : Program} {w : World} {r : Reach} {base : Nat} {u : TypeId} {x : Value} (hu : P.underlying u = some .string) (h : Cell.okWide P w r base u x) : ∃ s, x = .string s := by
  unfold Cell.okWide at h
  rw [hu] at h
  unfold Cell.ok at h
  rw [hu] at h
  cases x <;> simp_all
theorem cell_bool {P : Program} {w : World} {r : Reach} {base : Nat} {u : TypeId} {x : Value} (hu : P.underlying u = some .bool) (h : Cell.okWide P w r base u x) : ∃ b, x = .bool b := by
  unfold Cell.okWide at h
  rw [hu] at h
  unfold Cell.ok at h
  rw [hu] at h
  cases x <;> simp_all
theorem OwnG.below {g : Gr} {vs : List NdV} {a : Option Addr} {n c : Nat} {b : Option Addr} {m d : Nat} {x y : World} (h : OwnG g vs a n c b m d x) (hB : Below x.heap.size x y) : OwnG g vs a n c b m d y := h.keep (.of_below hB)
theorem few_b (g : Gr) (vs : List NdV) (a : Option Addr) (n c : Nat) (b : Option Addr) (m d : Nat) (w : World) (hg : OwnG g vs a n c b m d w) (hf : g.few = g) (hs : g.sm) :
    Calls Try.prog 7 #[.agg #[.slice a n c, .slice b m d]] w fun e w' => ∃ (us : List NdV) (a' : Option Addr) (n' c' : Nat) (b' : Option Addr) (m' d' : Nat), e = .returned (.agg #[.slice a' n' c', .slice b' m' d']) ∧ OwnG g us a' n' c' b' m' d' w' ∧ Below w.heap.size w w' :=
  (gfew_c g _ _ w hg.holds (by have := hs.1; omega) (by have := hs.2.2.1; omega) (fun x hx => by have := (hs.2.1 x hx).2.1; omega)).mono fun e w' ⟨us, a', n', c', b', m', d', he, h1, h2, hB⟩ => by
    rw [hf] at h1 h2
    exact ⟨us, a', n', c', b', m', d', he, ⟨h1, h2⟩, hB⟩
theorem rggood_c (g : Gr) (vs : List NdV) (a : Option Addr) (n c : Nat) (b : Option Addr) (m d : Nat) (w : World) (hg : OwnG g vs a n c b m d w) (hs : g.sm) :
    Calls Try.prog 26 #[.agg #[.slice a n c, .slice b m d]] w fun e w' => e = .returned (.bool ((checkG g).2 == 0)) ∧ Below w.heap.size w w' := by
  have hB0 := (Below.refl w.heap.size w).alloc (Nat.le_refl _) (.cells #[.slice a n c, .slice b m d] 25)
  have hX := heap_alloc_new w (.cells #[.slice a n c, .slice b m d] 25)
  have hc := rcheck_c g vs a n c b m d _ (hg.calm hB0) hs
  obtain ⟨⟨b0, b1⟩, -⟩ := box2f hX
  replace hB0 := hidden hB0
  clear hX hg hs
  generalize (checkG g).1 = p at *
  generalize (checkG g).2 = q at *
  go_enter Try.func26, Try.ntmps26
  go_wp2_with fail
  refine hc.mono ?_
  rintro e w5 ⟨rfl, hB5⟩
  have hBL : Hid (Below w.heap.size w w5) := hB0.out.trans (hB5.mono hB0.out.size)
  clear hB5 hB0 b0 b1 hc
  go_wp2
  go_ret
  exact ⟨by first | done | rfl, hBL.out⟩
end Go.Proofs.Ytnmjhbnadfjapaa
/-
  THE LAW TestEach, with lives() as a premise.
-/
namespace Go.Proofs.Ytnmjhbnadfjapaa
open Go.ChangeShapes Go.WideShapes Go.ChangeAt Go.RowKit Go.Maps

theorem two_row (w : World) (A B : Tst) : RowAt (w.alloc (.cells #[.string A.s, .int .i64 A.o, .int .i64 A.k, .int .i64 A.n, .string A.t, .string B.s, .int .i64 B.o, .int .i64 B.k, .int .i64 B.n, .string B.t] 62)) (some ⟨w.heap.size, 0, none⟩) (testR.flat [A, B]) := by
  refine .inr ⟨_, 0, rfl, by simp, fun j u hj => ?_⟩
  have h := heap_alloc_new w (.cells #[.string A.s, .int .i64 A.o, .int .i64 A.k, .int .i64 A.n, .string A.t, .string B.s, .int .i64 B.o, .int .i64 B.k, .int .i64 B.n, .string B.t] 62)
  simp only [World.cell?, h, Nat.zero_add, Option.isSome_none, Bool.false_eq_true, if_false]
  show (testR.flat [A, B]).toArray[j]? = some u
  rw [List.getElem?_toArray]
  exact hj
theorem slX {w : World} {B : Nat} {v : Value} {X : List Nat} (h : w.ownsRow B 3 1 v (X.map fun (i : Nat) => (i : Int)).length (intR.flat (X.map fun (i : Nat) => (i : Int)))) : ∃ a c, v = .slice a X.length c ∧ Sl w (.slice a X.length c) (ints X) := by
  obtain ⟨a, c, h1, h2, h3, h4, h5⟩ := slR_of_owns (R := intR) h
  have e : intR.flat (X.map fun (i : Nat) => (i : Int)) = ints X := by
    clear h h1 h2 h5
    induction X with
    | nil => rfl
    | cons x r ih => rw [List.map_cons, Rec.flat_cons, ih]; rfl
  rw [e] at h5
  rw [List.length_map] at h1 h2
  refine ⟨a, c, h1, a, c, by unfold ints; rw [List.length_map], by unfold ints; rw [List.length_map]; exact h2, h3, h4, h5⟩
theorem same_self (va vb : Value) (xs : List Int) (w : World) (hva : Holds w va (xs.map (Value.int .i64))) (hvb : Holds w vb (xs.map (Value.int .i64))) (hx : xs.length ≤ 17592186044416) : Calls Try.prog 17 #[va, vb] w fun e w' => e = .returned (.bool true) ∧ Below w.heap.size w w' := by
  have h := same_c va vb xs xs w hva hvb hx hx
  rw [decide_eq_true rfl] at h
  exact h
set_option maxHeartbeats 6000000 in
set_option maxRecDepth 100000 in
theorem lawTE_c (G : Gr) (nv ev : Value) (A0 : ByteArray) (A1 A2 A3 : Int) (A4 B0 : ByteArray) (B1 B2 B3 : Int) (B4 : ByteArray) (w : World) (hG : HoldsG w nv ev G) (hw : G.wf) (hlv : ∀ x, GoX.Calm w x → Calls Try.prog 31 #[] x fun e w' => e = .returned (.bool true) ∧ GoX.Calm x w') :
    Calls Try.prog 5 #[.agg #[nv, ev], .agg #[.string A0, .int .i64 A1, .int .i64 A2, .int .i64 A3, .string A4], .agg #[.string B0, .int .i64 B1, .int .i64 B2, .int .i64 B3, .string B4]] w fun e w' => e = .returned (.bool true) ∧ GoX.Calm w w' := by
  obtain ⟨w1', w2', w3', w4'⟩ := hw
  unfold maxLen at w1' w3'
  obtain ⟨ii, hii, hi0, hi1, hi2⟩ := info_parts infoIn
  obtain ⟨na, nc, rfl⟩ := hG.1.slice
  obtain ⟨ea, ec, rfl, -⟩ := id hG.2
  obtain ⟨wb, hwb⟩ : ∃ wb, wb = (((w.alloc (.cells #[.slice na G.ns.length nc, .slice ea G.es.length ec] 25)).alloc (.cells #[.string A0, .int .i64 A1, .int .i64 A2, .int .i64 A3, .string A4] 62)).alloc (.cells #[.string B0, .int .i64 B1, .int .i64 B2, .int .i64 B3, .string B4] 62)) := ⟨_, rfl⟩
  have hz1 : (w.alloc (.cells #[.slice na G.ns.length nc, .slice ea G.es.length ec] 25)).heap.size = w.heap.size + 1 := by simp
  have hz2 : ((w.alloc (.cells #[.slice na G.ns.length nc, .slice ea G.es.length ec] 25)).alloc (.cells #[.string A0, .int .i64 A1, .int .i64 A2, .int .i64 A3, .string A4] 62)).heap.size = w.heap.size + 2 := by simp
  have hB0 : Hid (Below w.heap.size w wb) := by rw [hwb]; exact (((Below.refl _ _).alloc (Nat.le_refl _) _).alloc (by rw [hz1]; omega) _).alloc (by rw [hz2]; omega) _
  have hX0 : Hid (wb.heap[w.heap.size]? = some (.cells #[.slice na G.ns.length nc, .slice ea G.es.length ec] 25)) := by
    rw [hwb]
    exact (heap_alloc_old _ _ (by rw [hz2]; omega)).trans ((heap_alloc_old _ _ (by rw [hz1]; omega)).trans (heap_alloc_new w _))
  have hXa : Hid (wb.heap[w.heap.size + 1]? = some (.cells #[.string A0, .int .i64 A1, .int .i64 A2, .int .i64 A3, .string A4] 62)) := by
    rw [hwb]
    have h := heap_alloc_new (w.alloc (.cells #[.slice na G.ns.length nc, .slice ea G.es.length ec] 25)) (.cells #[.string A0, .int .i64 A1, .int .i64 A2, .int .i64 A3, .string A4] 62)
    rw [hz1] at h
    exact (heap_alloc_old _ _ (by rw [hz2]; omega)).trans h
  have hXb : Hid (wb.heap[w.heap.size + 2]? = some (.cells #[.string B0, .int .i64 B1, .int .i64 B2, .int .i64 B3, .string B4] 62)) := by
    rw [hwb]
    have h := heap_alloc_new ((w.alloc (.cells #[.slice na G.ns.length nc, .slice ea G.es.length ec] 25)).alloc (.cells #[.string A0, .int .i64 A1, .int .i64 A2, .int .i64 A3, .string A4] 62)) (.cells #[.string B0, .int .i64 B1, .int .i64 B2, .int .i64 B3, .string B4] 62)
    rw [hz2] at h
    exact h
  have hf0 := hidden (gfew_c G _ _ wb.drew (hG.below (hB0.out.drew)) (by omega) (by omega) (fun x hx => by have := (w2' x hx).1; unfold maxLen at this; omega))
  have hff := hidden (Gr.few_few G)
  have hsm := hidden (Gr.few_sm G)
  generalize G.few = g at *
  generalize G.ns.length = NL at *
  generalize G.es.length = EL at *
  have hfa0 := hidden fun z => tfew_c ⟨A0, A1, A2, A3, A4⟩ z
  have hfb0 := hidden fun z => tfew_c ⟨B0, B1, B2, B3, B4⟩ z
  obtain ⟨A, hAe⟩ : ∃ A : Tst, A = ⟨cutB A0 32, A1, A2, A3, cutB A4 120⟩ := ⟨_, rfl⟩
  obtain ⟨B, hBe⟩ : ∃ B : Tst, B = ⟨cutB B0 32, B1, B2, B3, cutB B4 120⟩ := ⟨_, rfl⟩
  have hA : Hid (A.s.size ≤ maxLen) := hidden (by rw [hAe]; have := cutB_size A0 32; unfold maxLen; simp only; omega)
  have hB : Hid (B.s.size ≤ maxLen) := hidden (by rw [hBe]; have := cutB_size B0 32; unfold maxLen; simp only; omega)
  have hfa : Hid (∀ z, Calls Try.prog 27 #[.agg #[.string A0, .int .i64 A1, .int .i64 A2, .int .i64 A3, .string A4]] z fun e w' => e = .returned (.agg #[.string A.s, .int .i64 A.o, .int .i64 A.k, .int .i64 A.n, .string A.t]) ∧ Below z.heap.size z w') := hidden fun z => by rw [hAe]; exact hfa0.out z
  have hfb : Hid (∀ z, Calls Try.prog 27 #[.agg #[.string B0, .int .i64 B1, .int .i64 B2, .int .i64 B3, .string B4]] z fun e w' => e = .returned (.agg #[.string B.s, .int .i64 B.o, .int .i64 B.k, .int .i64 B.n, .string B.t]) ∧ Below z.heap.size z w') := hidden fun z => by rw [hBe]; exact hfb0.out z
  clear hG w1' w2' w3' w4' hfa0 hfb0 hAe hBe hz1 hz2
  have hSo : Hid (∀ z, Below wb.heap.size wb z → z.cell? ⟨w.heap.size, 0, none⟩ = some (.slice na NL nc) ∧ z.cell? ⟨w.heap.size, 1, none⟩ = some (.slice ea EL ec) ∧ z.cell? ⟨w.heap.size + 1, 0, none⟩ = some (.string A0) ∧ z.cell? ⟨w.heap.size + 1, 1, none⟩ = some (.int .i64 A1) ∧ z.cell? ⟨w.heap.size + 1, 2, none⟩ = some (.int .i64 A2) ∧ z.cell? ⟨w.heap.size + 1, 3, none⟩ = some (.int .i64 A3) ∧ z.cell? ⟨w.heap.size + 1, 4, none⟩ = some (.string A4) ∧ z.cell? ⟨w.heap.size + 2, 0, none⟩ = some (.string B0) ∧ z.cell? ⟨w.heap.size + 2, 1, none⟩ = some (.int .i64 B1) ∧ z.cell? ⟨w.heap.size + 2, 2, none⟩ = some (.int .i64 B2) ∧ z.cell? ⟨w.heap.size + 2, 3, none⟩ = some (.int .i64 B3) ∧ z.cell? ⟨w.heap.size + 2, 4, none⟩ = some (.string B4)) := hidden fun z h => by
    obtain ⟨⟨p0, p1⟩, -⟩ := box2f (box_below hX0.out h)
    obtain ⟨p2, p3, p4, p5, p6⟩ := box5t (box_below hXa.out h)
    exact ⟨p0, p1, p2, p3, p4, p5, p6, box5t (box_below hXb.out h)⟩
  have hS0 := hSo.out wb.drew (Below.refl _ _).drew
  go_enter Try.func5, Try.ntmps5
  go_wp2_with fail
  rw [← hwb]
  replace hwb := hidden hwb
  go_wp2_with fail
  refine wp_region_parts (S := (fun z => z.cell? ⟨w.heap.size, 0, none⟩ = some (.slice na NL nc) ∧ z.cell? ⟨w.heap.size, 1, none⟩ = some (.slice ea EL ec) ∧ z.cell? ⟨w.heap.size + 1, 0, none⟩ = some (.string A0) ∧ z.cell? ⟨w.heap.size + 1, 1, none⟩ = some (.int .i64 A1) ∧ z.cell? ⟨w.heap.size + 1, 2, none⟩ = some (.int .i64 A2) ∧ z.cell? ⟨w.heap.size + 1, 3, none⟩ = some (.int .i64 A3) ∧ z.cell? ⟨w.heap.size + 1, 4, none⟩ = some (.string A4) ∧ z.cell? ⟨w.heap.size + 2, 0, none⟩ = some (.string B0) ∧ z.cell? ⟨w.heap.size + 2, 1, none⟩ = some (.int .i64 B1) ∧ z.cell? ⟨w.heap.size + 2, 2, none⟩ = some (.int .i64 B2) ∧ z.cell? ⟨w.heap.size + 2, 3, none⟩ = some (.int .i64 B3) ∧ z.cell? ⟨w.heap.size + 2, 4, none⟩ = some (.string B4))) #[false, false, false, false, false, false, true, true, true] #[true, true, true, true, true, true, false, false, false] [6, 7, 8] 40 6 (by kernel_rfl) (by kernel_rfl) (by kernel_rfl) (by rfl) ?_ (fun hHeld => ?_)
  · exact hS0
  first
    | (refine wpAnyH_take (i := 0) (v := ?_) at0 (by kernel_rfl) (by kernel_rfl) (by kernel_rfl) (fun _ _ _ h => h) (Or.inl ⟨by rfl, ?_⟩) (by assumption) ?_
       rotate_left
       · intro w hSw; (try dsimp only at hSw); go_simp; try with_reducible rfl)
    | fail "take 0"
  try simp only [Act.put, List.setIfInBounds_toArray, List.set_cons_zero, List.set_cons_succ]
  first
    | (refine wpAnyH_take (i := 2) (v := ?_) at2 (by kernel_rfl) (by kernel_rfl) (by kernel_rfl) (fun _ _ _ h => h) (Or.inl ⟨by rfl, ?_⟩) (by assumption) ?_
       rotate_left
       · intro w hSw; (try dsimp only at hSw); go_simp; try with_reducible rfl)
    | fail "take 2"
  try simp only [Act.put, List.setIfInBounds_toArray, List.set_cons_zero, List.set_cons_succ]
  first
    | (refine wpAnyH_take (i := 4) (v := ?_) at4 (by kernel_rfl) (by kernel_rfl) (by kernel_rfl) (fun _ _ _ h => h) (Or.inl ⟨by rfl, ?_⟩) (by assumption) ?_
       rotate_left
       · intro w hSw; (try dsimp only at hSw); go_simp; try with_reducible rfl)
    | fail "take 4"
  try simp only [Act.put, List.setIfInBounds_toArray, List.set_cons_zero, List.set_cons_succ]
  refine wpAnyH_ready (rs := [1]) (by kernel_rfl) (by simp) ?_
  refine AllReadyH.cons (i := 1) at1 (fun K hK => ?_) ?_
  · go_simp
    refine (hf0.out).mono ?_
    rintro e u1 ⟨vs, a, n, c, b, m, d, rfl, hN, hE, hBz⟩
    have kA := hidden ((Below.refl wb.heap.size wb).drew.trans hBz)
    have hSn := hSo.out u1 kA.out
    have hO1 : Hid (OwnG g vs a n c b m d u1) := hidden ⟨hN, hE⟩
    clear hN hE
    refine hK.out _ _ ?_ (fun hNew => ?_)
    · exact hSn
    clear hK K hHeld
    have hHeld := hNew
    clear hNew
    try simp only [List.setIfInBounds_toArray, List.set_cons_zero, List.set_cons_succ]
    refine wpAnyH_ready (rs := [3]) (by kernel_rfl) (by simp) ?_
    refine AllReadyH.cons (i := 3) at3 (fun K hK => ?_) ?_
    · go_simp
      refine (hfa.out _).mono ?_
      rintro e u3 ⟨rfl, hBz⟩
      have kB := hidden (kA.out.trans (hBz.mono kA.out.size))
      have hSn := hSo.out u3 kB.out
      have hO3 := hidden (hO1.out.below hBz)
      refine hK.out _ _ ?_ (fun hNew => ?_)
      · exact hSn
      clear hK K hHeld
      have hHeld := hNew
      clear hNew
      try simp only [List.setIfInBounds_toArray, List.set_cons_zero, List.set_cons_succ]
      refine wpAnyH_ready (rs := [5]) (by kernel_rfl) (by simp) ?_
      refine AllReadyH.cons (i := 5) at5 (fun K hK => ?_) ?_
      · go_simp
        refine (hfb.out _).mono ?_
        rintro e u5 ⟨rfl, hBz⟩
        have kC := hidden (kB.out.trans (hBz.mono kB.out.size))
        have hSn := hSo.out u5 kC.out
        have hO5 := hidden (hO3.out.below hBz)
        refine hK.out _ _ ?_ (fun hNew => ?_)
        · exact hSn
        clear hK K hHeld
        have hHeld := hNew
        clear hNew
        try simp only [List.setIfInBounds_toArray, List.set_cons_zero, List.set_cons_succ]
        refine tail_list (is := [6, 7, 8]) (l := _) (by kernel_rfl) (by kernel_rfl) (by kernel_rfl) rfl ?_
        simp only [List.filterMap_cons, List.filterMap_nil, at6, at7, at8]
        show wpList _ _ _ (_ :: _) _ _
        have hg5 := box_below hX0.out kC.out
        have ha5 := box_below hXa.out kC.out
        have hb5 := box_below hXb.out kC.out
        have hO6 := (hO5.out.set hg5 0 (.slice a n c)).set (set_heap hg5 0 (.slice a n c)) 1 (.slice b m d)
        have hg6 := set_heap (set_heap hg5 0 (.slice a n c)) 1 (.slice b m d)
        have ha6 := set_oth (set_oth ha5 (show w.heap.size ≠ w.heap.size + 1 by omega) 0 (.slice a n c)) (show w.heap.size ≠ w.heap.size + 1 by omega) 1 (.slice b m d)
        have hb6 := set_oth (set_oth hb5 (show w.heap.size ≠ w.heap.size + 2 by omega) 0 (.slice a n c)) (show w.heap.size ≠ w.heap.size + 2 by omega) 1 (.slice b m d)
        have hO7 := hO6.set5 ha6 (.string A.s) (.int .i64 A.o) (.int .i64 A.k) (.int .i64 A.n) (.string A.t)
        have hg7 := oth_set5 hg6 (show w.heap.size + 1 ≠ w.heap.size by omega) (.string A.s) (.int .i64 A.o) (.int .i64 A.k) (.int .i64 A.n) (.string A.t)
        have ha7 := heap_set5 ha6 (.string A.s) (.int .i64 A.o) (.int .i64 A.k) (.int .i64 A.n) (.string A.t)
        have hb7 := oth_set5 hb6 (show w.heap.size + 1 ≠ w.heap.size + 2 by omega) (.string A.s) (.int .i64 A.o) (.int .i64 A.k) (.int .i64 A.n) (.string A.t)
        have hO2 := hidden (hO7.set5 hb7 (.string B.s) (.int .i64 B.o) (.int .i64 B.k) (.int .i64 B.n) (.string B.t))
        have hXg := hidden (oth_set5 hg7 (show w.heap.size + 2 ≠ w.heap.size by omega) (.string B.s) (.int .i64 B.o) (.int .i64 B.k) (.int .i64 B.n) (.string B.t))
        have hXA := hidden (oth_set5 ha7 (show w.heap.size + 2 ≠ w.heap.size + 1 by omega) (.string B.s) (.int .i64 B.o) (.int .i64 B.k) (.int .i64 B.n) (.string B.t))
        have hXB := hidden (heap_set5 hb7 (.string B.s) (.int .i64 B.o) (.int .i64 B.k) (.int .i64 B.n) (.string B.t))
        have hC6 := ((hB0.out.trans (kC.out.mono hB0.out.size)).setCell (p := ⟨w.heap.size, 0, none⟩) (Nat.le_refl _) (.slice a n c)).setCell (p := ⟨w.heap.size, 1, none⟩) (Nat.le_refl _) (.slice b m d)
        have hC2 := hidden (below_set5 (below_set5 hC6 (show w.heap.size ≤ w.heap.size + 1 by omega) (.string A.s) (.int .i64 A.o) (.int .i64 A.k) (.int .i64 A.n) (.string A.t)) (show w.heap.size ≤ w.heap.size + 2 by omega) (.string B.s) (.int .i64 B.o) (.int .i64 B.k) (.int .i64 B.n) (.string B.t))
        obtain ⟨-, fg0, fg1⟩ := box2f hg5
        obtain ⟨fa0, fa1, fa2, fa3, fa4⟩ := frz5 ha5
        obtain ⟨fb0, fb1, fb2, fb3, fb4⟩ := frz5 hb5
        clear hO6 hO7 hg6 ha6 hb6 hg7 ha7 hb7 hC6 hg5 ha5 hb5
        go_wp2_with fail
        skip
        clear fg0 fg1 fa0 fa1 fa2 fa3 fa4 fb0 fb1 fb2 fb3 fb4 hSn hSo hHeld hf0 hfa hfb hX0 hXa hXb kA kB kC hO1 hO3 hO5 hB0
        have hsz : ((((((((((((u5.setCell ⟨w.heap.size, 0, none⟩ (.slice a n c)).setCell ⟨w.heap.size, 1, none⟩ (.slice b m d)).setCell ⟨w.heap.size + 1, 0, none⟩ (.string A.s)).setCell ⟨w.heap.size + 1, 1, none⟩ (.int .i64 A.o)).setCell ⟨w.heap.size + 1, 2, none⟩ (.int .i64 A.k)).setCell ⟨w.heap.size + 1, 3, none⟩ (.int .i64 A.n)).setCell ⟨w.heap.size + 1, 4, none⟩ (.string A.t)).setCell ⟨w.heap.size + 2, 0, none⟩ (.string B.s)).setCell ⟨w.heap.size + 2, 1, none⟩ (.int .i64 B.o)).setCell ⟨w.heap.size + 2, 2, none⟩ (.int .i64 B.k)).setCell ⟨w.heap.size + 2, 3, none⟩ (.int .i64 B.n)).setCell ⟨w.heap.size + 2, 4, none⟩ (.string B.t)).heap.size = u5.heap.size := by simp
        generalize hwy : (((((((((((u5.setCell ⟨w.heap.size, 0, none⟩ (.slice a n c)).setCell ⟨w.heap.size, 1, none⟩ (.slice b m d)).setCell ⟨w.heap.size + 1, 0, none⟩ (.string A.s)).setCell ⟨w.heap.size + 1, 1, none⟩ (.int .i64 A.o)).setCell ⟨w.heap.size + 1, 2, none⟩ (.int .i64 A.k)).setCell ⟨w.heap.size + 1, 3, none⟩ (.int .i64 A.n)).setCell ⟨w.heap.size + 1, 4, none⟩ (.string A.t)).setCell ⟨w.heap.size + 2, 0, none⟩ (.string B.s)).setCell ⟨w.heap.size + 2, 1, none⟩ (.int .i64 B.o)).setCell ⟨w.heap.size + 2, 2, none⟩ (.int .i64 B.k)).setCell ⟨w.heap.size + 2, 3, none⟩ (.int .i64 B.n)).setCell ⟨w.heap.size + 2, 4, none⟩ (.string B.t) = y at *
        clear hwy
        rw [← hsz]
        clear hsz hS0 hwb
        obtain ⟨hgn, -⟩ := hO2.out.len
        have hN0 : g.ns.length ≤ 1000 := hsm.out.1
        have hn0 : n ≤ 1000 := by omega
        have hps : Hid (∀ i, (g.ns.getD i Nd.none).ps.length ≤ 1000) := hidden fun i => by
          by_cases hi : i < g.ns.length
          · exact (hsm.out.2.1 _ (getD_memG (d := Nd.none) hi)).2.1
          · simp [List.getD, List.getElem?_eq_none (Nat.le_of_not_lt hi), Nd.none]
        have hgl : Hid (g.ns.length = n) := hidden hgn.symm
        have hlN := hidden (Nat.le_trans (bothN_len g.ns [A, B] g.ns.length) hN0)
        have hlA := hidden (Nat.le_trans (bothN_len g.ns [A] g.ns.length) hN0)
        clear hgn
        have hfew : Hid (∀ z, Below y.heap.size y z → Calls Try.prog 7 #[.agg #[.slice a n c, .slice b m d]] z fun e w' => ∃ (us : List NdV) (a' : Option Addr) (n' c' : Nat) (b' : Option Addr) (m' d' : Nat), e = .returned (.agg #[.slice a' n' c', .slice b' m' d']) ∧ OwnG g us a' n' c' b' m' d' w' ∧ Below z.heap.size z w') := hidden fun z h => few_b g vs a n c b m d z (hO2.out.below h) hff.out hsm.out
        have hgood : Hid (∀ z, Below y.heap.size y z → Calls Try.prog 26 #[.agg #[.slice a n c, .slice b m d]] z fun e w' => e = .returned (.bool ((checkG g).2 == 0)) ∧ Below z.heap.size z w') := hidden fun z h => rggood_c g vs a n c b m d z (hO2.out.below h) hsm.out
        have hXY : Hid (∀ z, Below y.heap.size y z → z.heap[w.heap.size]? = some (.cells #[.slice a n c, .slice b m d] 25)) := hidden fun z h => box_below hXg.out h
        have hcz : Hid (∀ z, Below y.heap.size y z → z.cell? ⟨w.heap.size, 0, none⟩ = some (.slice a n c) ∧ z.cell? ⟨w.heap.size, 1, none⟩ = some (.slice b m d) ∧ z.cell? ⟨w.heap.size + 1, 0, none⟩ = some (.string A.s) ∧ z.cell? ⟨w.heap.size + 1, 1, none⟩ = some (.int .i64 A.o) ∧ z.cell? ⟨w.heap.size + 1, 2, none⟩ = some (.int .i64 A.k) ∧ z.cell? ⟨w.heap.size + 1, 3, none⟩ = some (.int .i64 A.n) ∧ z.cell? ⟨w.heap.size + 1, 4, none⟩ = some (.string A.t) ∧ z.cell? ⟨w.heap.size + 2, 0, none⟩ = some (.string B.s) ∧ z.cell? ⟨w.heap.size + 2, 1, none⟩ = some (.int .i64 B.o) ∧ z.cell? ⟨w.heap.size + 2, 2, none⟩ = some (.int .i64 B.k) ∧ z.cell? ⟨w.heap.size + 2, 3, none⟩ = some (.int .i64 B.n) ∧ z.cell? ⟨w.heap.size + 2, 4, none⟩ = some (.string B.t)) := hidden fun z h => by
          obtain ⟨⟨p0, p1⟩, -⟩ := box2f (box_below hXg.out h)
          obtain ⟨p2, p3, p4, p5, p6⟩ := box5t (box_below hXA.out h)
          exact ⟨p0, p1, p2, p3, p4, p5, p6, box5t (box_below hXB.out h)⟩
        have hnd : Hid (∀ z, Below y.heap.size y z → ∀ k, k < g.ns.length → ∃ gn off pa pc, a = some ⟨gn, off, none⟩ ∧ gn < z.heap.size ∧ z.cell? ⟨gn, off + k * 2, none⟩ = some (.string (g.ns.getD k Nd.none).l) ∧ z.cell? ⟨gn, off + k * 2 + 1, none⟩ = some (.slice pa (g.ns.getD k Nd.none).ps.length pc) ∧ RowAt z pa (propR.flat (g.ns.getD k Nd.none).ps)) := hidden fun z h k hk => node_in (hO2.out.below h) hk
        clear hXg hXA hXB
        have hsy : ∃ y1, y1 = y := ⟨_, rfl⟩
        clear hsy
        have hO0 : Hid ((y.alloc (.cells #[] 3)).ownsRow y.heap.size 3 1 (.slice (some ⟨y.heap.size, 0, none⟩) 0 0) (bothN g.ns [A, B] 0).length (natR.flat (bothN g.ns [A, B] 0))) := hidden (World.ownsRow_made (base := y.heap.size) (e := 3) (size := 1) y #[] 0 (Nat.le_refl _) (by unfold maxLen; omega) rfl)
        have hk0 : Hid (Below y.heap.size y (y.alloc (.cells #[] 3))) := hidden ((Below.refl _ _).alloc (Nat.le_refl _) _)
        skip
        generalize y.alloc (.cells #[] 3) = x at *
        go_loopw [7, 8] (fun u i wr => ∃ k : Nat, k ≤ n ∧ i = .int .i64 k ∧ Hid (wr.ownsRow y.heap.size 3 1 u (bothN g.ns [A, B] k).length (natR.flat (bothN g.ns [A, B] k))) ∧ Hid (Below y.heap.size y wr))
          (fun _ i _ => n - (intOf i).toNat)
        case atStart => exact ⟨0, Nat.zero_le _, rfl, hO0, hk0⟩
        case round =>
          clear hO0 hk0
          obtain ⟨k, hk, rfl, hown, hnx⟩ := hrel
          obtain ⟨oa, oc, rfl⟩ := own_shape hown.out
          obtain ⟨⟨b0, b1⟩, -⟩ := box2f (hXY.out wr hnx.out)
          by_cases hlt : k < n
          · have hlt' : (k : Int) < (n : Int) := by omega
            obtain ⟨gn, off, pa, pc, rfl, hbb, d0, d1, hpr⟩ := hnd.out wr hnx.out k (by rw [hgl.out]; exact hlt)
            have hsu := hidden (bothN_succ g.ns [A, B] k)
            have hln := bothN_len g.ns [A, B] k
            have hpl := hps.out k
            have hprz := hidden fun z (h : Below wr.heap.size wr z) => hpr.below h
            have hsay := hidden fun z (h : Below wr.heap.size wr z) ta (ht : RowAt z ta (testR.flat [A, B])) => says_c (g.ns.getD k Nd.none).l (g.ns.getD k Nd.none).ps pa pc [A, B] ta 2 z (hprz.out z h) hpl ht (by simp)
            generalize (g.ns.getD k Nd.none).l = l at *
            generalize (g.ns.getD k Nd.none).ps = ps at *
            generalize [A, B].all (sayT ps) = bb at *
            generalize ps.length = pl at *
            have hch : Hid (∀ z, Below wr.heap.size wr z → z.cell? ⟨w.heap.size, 0, none⟩ = some (.slice (some ⟨gn, off, none⟩) n c) ∧ z.cell? ⟨w.heap.size, 1, none⟩ = some (.slice b m d) ∧ z.cell? ⟨w.heap.size + 1, 0, none⟩ = some (.string A.s) ∧ z.cell? ⟨w.heap.size + 1, 1, none⟩ = some (.int .i64 A.o) ∧ z.cell? ⟨w.heap.size + 1, 2, none⟩ = some (.int .i64 A.k) ∧ z.cell? ⟨w.heap.size + 1, 3, none⟩ = some (.int .i64 A.n) ∧ z.cell? ⟨w.heap.size + 1, 4, none⟩ = some (.string A.t) ∧ z.cell? ⟨w.heap.size + 2, 0, none⟩ = some (.string B.s) ∧ z.cell? ⟨w.heap.size + 2, 1, none⟩ = some (.int .i64 B.o) ∧ z.cell? ⟨w.heap.size + 2, 2, none⟩ = some (.int .i64 B.k) ∧ z.cell? ⟨w.heap.size + 2, 3, none⟩ = some (.int .i64 B.n) ∧ z.cell? ⟨w.heap.size + 2, 4, none⟩ = some (.string B.t) ∧ z.cell? ⟨gn, off + k * 2, none⟩ = some (.string l) ∧ z.cell? ⟨gn, off + k * 2 + 1, none⟩ = some (.slice pa pl pc)) := hidden fun z h => by
              obtain ⟨p0, p1, p2, p3, p4, p5, p6, p7, p8, p9, p10, p11⟩ := hcz.out z (hnx.out.trans (h.mono hnx.out.size))
              exact ⟨p0, p1, p2, p3, p4, p5, p6, p7, p8, p9, p10, p11, (h.cell (p := ⟨gn, off + k * 2, none⟩) hbb).trans d0, (h.cell (p := ⟨gn, off + k * 2 + 1, none⟩) hbb).trans d1⟩
            have hS6 := hch.out wr.drew (Below.refl _ _).drew
            clear d0 d1 hbb hpr hprz
            go_wp2_with fail
            clear b0 b1
            refine wp_region_parts (S := (fun z => z.cell? ⟨w.heap.size, 0, none⟩ = some (.slice (some ⟨gn, off, none⟩) n c) ∧ z.cell? ⟨w.heap.size, 1, none⟩ = some (.slice b m d) ∧ z.cell? ⟨w.heap.size + 1, 0, none⟩ = some (.string A.s) ∧ z.cell? ⟨w.heap.size + 1, 1, none⟩ = some (.int .i64 A.o) ∧ z.cell? ⟨w.heap.size + 1, 2, none⟩ = some (.int .i64 A.k) ∧ z.cell? ⟨w.heap.size + 1, 3, none⟩ = some (.int .i64 A.n) ∧ z.cell? ⟨w.heap.size + 1, 4, none⟩ = some (.string A.t) ∧ z.cell? ⟨w.heap.size + 2, 0, none⟩ = some (.string B.s) ∧ z.cell? ⟨w.heap.size + 2, 1, none⟩ = some (.int .i64 B.o) ∧ z.cell? ⟨w.heap.size + 2, 2, none⟩ = some (.int .i64 B.k) ∧ z.cell? ⟨w.heap.size + 2, 3, none⟩ = some (.int .i64 B.n) ∧ z.cell? ⟨w.heap.size + 2, 4, none⟩ = some (.string B.t) ∧ z.cell? ⟨gn, off + k * 2, none⟩ = some (.string l) ∧ z.cell? ⟨gn, off + k * 2 + 1, none⟩ = some (.slice pa pl pc))) #[false, false, false, false, false, false, false, false, true] #[true, true, true, true, true, true, true, true, false] [8] 40 8 (by kernel_rfl) (by kernel_rfl) (by kernel_rfl) (by rfl) ?_ (fun hHeld => ?_)
            · exact hS6
            first
              | (refine wpAnyH_take (i := 0) (v := ?_) at0 (by kernel_rfl) (by kernel_rfl) (by kernel_rfl) (fun _ _ _ h => h) (Or.inl ⟨by rfl, ?_⟩) (by assumption) ?_
                 rotate_left
                 · intro w hSw; (try dsimp only at hSw); go_simp; try with_reducible rfl)
              | fail "take 0"
            try simp only [Act.put, List.setIfInBounds_toArray, List.set_cons_zero, List.set_cons_succ]
            first
              | (refine wpAnyH_take (i := 1) (v := ?_) at1 (by kernel_rfl) (by kernel_rfl) (by kernel_rfl) (fun _ _ _ h => h) (Or.inl ⟨by rfl, ?_⟩) (by assumption) ?_
                 rotate_left
                 · intro w hSw; (try dsimp only at hSw); go_simp; try with_reducible rfl)
              | fail "take 1"
            try simp only [Act.put, List.setIfInBounds_toArray, List.set_cons_zero, List.set_cons_succ]
            first
              | (refine wpAnyH_take (i := 2) (v := ?_) at2 (by kernel_rfl) (by kernel_rfl) (by kernel_rfl) (fun _ _ _ h => h) (Or.inl ⟨by rfl, ?_⟩) (by assumption) ?_
                 rotate_left
                 · intro w hSw; (try dsimp only at hSw); go_simp; try with_reducible rfl)
              | fail "take 2"
            try simp only [Act.put, List.setIfInBounds_toArray, List.set_cons_zero, List.set_cons_succ]
            first
              | (refine wpAnyH_take (i := 3) (v := ?_) at3 (by kernel_rfl) (by kernel_rfl) (by kernel_rfl) (fun _ _ _ h => h) (Or.inl ⟨by rfl, ?_⟩) (by assumption) ?_
                 rotate_left
                 · intro w hSw; (try dsimp only at hSw); go_simp; try with_reducible rfl)
              | fail "take 3"
            try simp only [Act.put, List.setIfInBounds_toArray, List.set_cons_zero, List.set_cons_succ]
            first
              | (refine wpAnyH_take (i := 4) (v := ?_) at4 (by kernel_rfl) (by kernel_rfl) (by kernel_rfl) (fun _ _ _ h => h) (Or.inl ⟨by rfl, ?_⟩) (by assumption) ?_
                 rotate_left
                 · intro w hSw; (try dsimp only at hSw); go_simp; try with_reducible rfl)
              | fail "take 4"
            try simp only [Act.put, List.setIfInBounds_toArray, List.set_cons_zero, List.set_cons_succ]
            first
              | (refine wpAnyH_take (i := 5) (v := ?_) at5 (by kernel_rfl) (by kernel_rfl) (by kernel_rfl) (fun _ _ _ h => h) (Or.inl ⟨by rfl, ?_⟩) (by assumption) ?_
                 rotate_left
                 · intro w hSw; (try dsimp only at hSw); go_simp; try with_reducible rfl)
              | fail "take 5"
            try simp only [Act.put, List.setIfInBounds_toArray, List.set_cons_zero, List.set_cons_succ]
            first
              | (refine wpAnyH_take (i := 6) (v := ?_) at6 (by kernel_rfl) (by kernel_rfl) (by kernel_rfl) (fun _ _ _ h => h) (Or.inl ⟨by rfl, ?_⟩) (by assumption) ?_
                 rotate_left
                 · intro w hSw; (try dsimp only at hSw); go_simp; try with_reducible rfl)
              | fail "take 6"
            try simp only [Act.put, List.setIfInBounds_toArray, List.set_cons_zero, List.set_cons_succ]
            refine wpAnyH_ready (rs := [7]) (by kernel_rfl) (by simp) ?_
            refine AllReadyH.cons (i := 7) at7 (fun K hK => ?_) AllReadyH.nil
            go_simp
            generalize hz : World.drew (World.alloc wr (.cells #[.string A.s, .int .i64 A.o, .int .i64 A.k, .int .i64 A.n, .string A.t, .string B.s, .int .i64 B.o, .int .i64 B.k, .int .i64 B.n, .string B.t] 62)) = q1
            have hbn : Below wr.heap.size wr q1 := by
              rw [← hz]
              first | exact (Below.refl _ _).alloc (Nat.le_refl _) _ | exact ((Below.refl _ _).alloc (Nat.le_refl _) _).drew
            have htr : Hid (RowAt q1 (some ⟨wr.heap.size, 0, none⟩) (testR.flat [A, B])) := hidden (by rw [← hz]; exact two_row wr A B)
            have hbq := hidden hbn
            have hSn := hch.out q1 hbn
            clear hz hbn
            refine hK.out _ _ ?_ (fun hNew => ?_)
            · exact hSn
            clear hK K hHeld
            have hHeld := hNew
            clear hNew
            try simp only [List.setIfInBounds_toArray, List.set_cons_zero, List.set_cons_succ]
            refine tail_list (is := [8]) (l := _) (by kernel_rfl) (by kernel_rfl) (by kernel_rfl) rfl ?_
            simp only [List.filterMap_cons, List.filterMap_nil, at8]
            show wpList _ _ _ (_ :: _) _ _
            go_wp2_with fail
            refine (hsay.out q1 hbq.out _ htr.out).mono ?_
            rintro e q2 ⟨rfl, hBz⟩
            have hb2 : Hid (Below wr.heap.size wr q2) := hidden (hbq.out.trans (hBz.mono hbq.out.size))
            have hn2 : Hid (Below y.heap.size y q2) := hidden (hnx.out.trans (hb2.out.mono hnx.out.size))
            have ho2 := hidden (owns_keep hown.out hb2.out)
            have hws : y.heap.size ≤ q2.heap.size := hn2.out.size
            clear hb2 hBz hbq htr hSn hS6 hch hHeld hsay hnx hown
            cases bb with
            | true =>
              have hone := hidden (SlR.oneR (R := natR) q2 k 3)
              go_wp2_with (at_builtin; go_loud (refine wpList_appT _ natR rfl _ _ 47 rfl y.heap.size 3 ii (.int .i64 0) 1 8 Try.underlying47 hii hi0 hi1 hi2 rfl rfl rfl (owns_keep ho2.out ((Below.refl _ _).alloc (Nat.le_refl _) _)) rfl (hone.out) (by show _ + 1 ≤ _; unfold maxLen; omega) (by show (_ + 1) * 8 ≤ _; omega) (by show _ ≤ (q2.heap.push _).size; simp; omega) ?_); intro v' w5 hown5 hgrow5)
              have hk5 : Hid (Below y.heap.size y w5) := hidden ((hn2.out.alloc hn2.out.size _).grown hgrow5 (hn2.out.alloc hn2.out.size (.cells #[.int .i64 (k : Int)] 3)).size (fun j hj => (ho2.out.lt j hj).1))
              have hO5 : Hid (w5.ownsRow y.heap.size 3 1 v' (bothN g.ns [A, B] (k + 1)).length (natR.flat (bothN g.ns [A, B] (k + 1)))) := hidden (by
                rw [hsu.out]
                simp only [if_true]
                rw [List.length_append, Rec.flat_app]
                exact hown5)
              clear hown5 hgrow5 ho2 hn2 hone
              go_wp2
              go_roundw
              case rel => exact ⟨k + 1, by omega, by go_num, hO5, hk5⟩
              case measure => simp [intOf]; omega
            | false =>
              have hO5 : Hid (q2.ownsRow y.heap.size 3 1 (.slice oa (bothN g.ns [A, B] k).length oc) (bothN g.ns [A, B] (k + 1)).length (natR.flat (bothN g.ns [A, B] (k + 1)))) := hidden (by
                rw [hsu.out]
                simp only [Bool.false_eq_true, if_false, List.append_nil]
                exact ho2.out)
              clear ho2
              go_wp2
              go_roundw
              case rel => exact ⟨k + 1, by omega, by go_num, hO5, hn2⟩
              case measure => simp [intOf]; omega
          · have hlt' : ¬ (k : Int) < (n : Int) := by omega
            obtain rfl : n = k := by omega
            have hbe : bothN g.ns [A, B] n = bothN g.ns [A, B] g.ns.length := by rw [hgl.out]
            rw [hbe] at hown ⊢
            clear hbe
            have hS8 := hcz.out wr.drew (hnx.out.trans (Below.refl _ _).drew)
            go_wp2_with fail
            clear b0 b1
            refine wp_region_parts (S := (fun z => z.cell? ⟨w.heap.size, 0, none⟩ = some (.slice a n c) ∧ z.cell? ⟨w.heap.size, 1, none⟩ = some (.slice b m d) ∧ z.cell? ⟨w.heap.size + 1, 0, none⟩ = some (.string A.s) ∧ z.cell? ⟨w.heap.size + 1, 1, none⟩ = some (.int .i64 A.o) ∧ z.cell? ⟨w.heap.size + 1, 2, none⟩ = some (.int .i64 A.k) ∧ z.cell? ⟨w.heap.size + 1, 3, none⟩ = some (.int .i64 A.n) ∧ z.cell? ⟨w.heap.size + 1, 4, none⟩ = some (.string A.t) ∧ z.cell? ⟨w.heap.size + 2, 0, none⟩ = some (.string B.s) ∧ z.cell? ⟨w.heap.size + 2, 1, none⟩ = some (.int .i64 B.o) ∧ z.cell? ⟨w.heap.size + 2, 2, none⟩ = some (.int .i64 B.k) ∧ z.cell? ⟨w.heap.size + 2, 3, none⟩ = some (.int .i64 B.n) ∧ z.cell? ⟨w.heap.size + 2, 4, none⟩ = some (.string B.t))) #[false, false, false, false, false, false, false, false, true] #[true, true, true, true, true, true, true, true, false] [8] 40 8 (by kernel_rfl) (by kernel_rfl) (by kernel_rfl) (by rfl) ?_ (fun hHeld => ?_)
            · exact hS8
            first
              | (refine wpAnyH_take (i := 0) (v := ?_) at0 (by kernel_rfl) (by kernel_rfl) (by kernel_rfl) (fun _ _ _ h => h) (Or.inl ⟨by rfl, ?_⟩) (by assumption) ?_
                 rotate_left
                 · intro w hSw; (try dsimp only at hSw); go_simp; try with_reducible rfl)
              | fail "take 0"
            try simp only [Act.put, List.setIfInBounds_toArray, List.set_cons_zero, List.set_cons_succ]
            first
              | (refine wpAnyH_take (i := 2) (v := ?_) at2 (by kernel_rfl) (by kernel_rfl) (by kernel_rfl) (fun _ _ _ h => h) (Or.inl ⟨by rfl, ?_⟩) (by assumption) ?_
                 rotate_left
                 · intro w hSw; (try dsimp only at hSw); go_simp; try with_reducible rfl)
              | fail "take 2"
            try simp only [Act.put, List.setIfInBounds_toArray, List.set_cons_zero, List.set_cons_succ]
            first
              | (refine wpAnyH_take (i := 3) (v := ?_) at3 (by kernel_rfl) (by kernel_rfl) (by kernel_rfl) (fun _ _ _ h => h) (Or.inl ⟨by rfl, ?_⟩) (by assumption) ?_
                 rotate_left
                 · intro w hSw; (try dsimp only at hSw); go_simp; try with_reducible rfl)
              | fail "take 3"
            try simp only [Act.put, List.setIfInBounds_toArray, List.set_cons_zero, List.set_cons_succ]
            first
              | (refine wpAnyH_take (i := 6) (v := ?_) at6 (by kernel_rfl) (by kernel_rfl) (by kernel_rfl) (fun _ _ _ h => h) (Or.inl ⟨by rfl, ?_⟩) (by assumption) ?_
                 rotate_left
                 · intro w hSw; (try dsimp only at hSw); go_simp; try with_reducible rfl)
              | fail "take 6"
            try simp only [Act.put, List.setIfInBounds_toArray, List.set_cons_zero, List.set_cons_succ]
            refine wpAnyH_ready (rs := [1, 4]) (by kernel_rfl) (by simp) ?_
            refine AllReadyH.cons (i := 1) at1 (fun K hK => ?_) ?_
            · go_simp
              refine (hfew.out _ (hnx.out.trans ((hidden (Below.refl wr.heap.size wr).drew).out.mono hnx.out.size))).mono ?_
              rintro e p1 ⟨us, a3, n3, c3, b3, m3, d3, rfl, hU, hBz⟩
              have kp1 : Hid (Below wr.heap.size wr p1) := hidden ((hidden (Below.refl wr.heap.size wr).drew).out.trans (hBz.mono (hidden (Below.refl wr.heap.size wr).drew).out.size))
              replace hU := hidden hU
              clear hBz
              have hSn := hcz.out p1 (hnx.out.trans (kp1.out.mono hnx.out.size))
              refine hK.out _ _ ?_ (fun hNew => ?_)
              · exact hSn
              clear hK K hHeld
              have hHeld := hNew
              clear hNew
              try simp only [List.setIfInBounds_toArray, List.set_cons_zero, List.set_cons_succ]
              refine wpAnyH_ready (rs := [4]) (by kernel_rfl) (by simp) ?_
              refine AllReadyH.cons (i := 4) at4 (fun K hK => ?_) ?_
              · go_simp
                generalize hz : World.alloc p1 (.cells #[.string A.s, .int .i64 A.o, .int .i64 A.k, .int .i64 A.n, .string A.t, .string B.s, .int .i64 B.o, .int .i64 B.k, .int .i64 B.n, .string B.t] 62) = p2
                have hbn : Below p1.heap.size p1 p2 := by
                  rw [← hz]
                  first | exact (Below.refl _ _).alloc (Nat.le_refl _) _ | exact ((Below.refl _ _).alloc (Nat.le_refl _) _).drew
                have htr : Hid (RowAt p2 (some ⟨p1.heap.size, 0, none⟩) (testR.flat [A, B])) := hidden (by rw [← hz]; exact two_row p1 A B)
                have kp2 : Hid (Below wr.heap.size wr p2) := hidden (kp1.out.trans (hbn.mono kp1.out.size))
                replace hU := hidden (hU.out.below hbn)
                clear hz hbn
                have hSn := hcz.out p2 (hnx.out.trans (kp2.out.mono hnx.out.size))
                refine hK.out _ _ ?_ (fun hNew => ?_)
                · exact hSn
                clear hK K hHeld
                have hHeld := hNew
                clear hNew
                try simp only [List.setIfInBounds_toArray, List.set_cons_zero, List.set_cons_succ]
                refine wpAnyH_ready (rs := [5]) (by kernel_rfl) (by simp) ?_
                refine AllReadyH.cons (i := 5) at5 (fun K hK => ?_) ?_
                · go_simp
                  refine (all_c g us a3 n3 c3 b3 m3 d3 [A, B] _ 2 p2 hU.out hsm.out htr.out (by simp)).mono ?_
                  rintro e p3 ⟨v9, rfl, hv9, hBz⟩
                  have kp3 : Hid (Below wr.heap.size wr p3) := hidden (kp2.out.trans (hBz.mono kp2.out.size))
                  have hv9h := hidden (natH (holdsR_of_owns (R := natR) hv9))
                  clear hv9 hBz hU htr
                  have hSn := hcz.out p3 (hnx.out.trans (kp3.out.mono hnx.out.size))
                  refine hK.out _ _ ?_ (fun hNew => ?_)
                  · exact hSn
                  clear hK K hHeld
                  have hHeld := hNew
                  clear hNew
                  try simp only [List.setIfInBounds_toArray, List.set_cons_zero, List.set_cons_succ]
                  refine wpAnyH_ready (rs := [7]) (by kernel_rfl) (by simp) ?_
                  refine AllReadyH.cons (i := 7) at7 (fun K hK => ?_) ?_
                  · go_simp
                    refine (same_self _ _ _ _ hv9h.out (natH (holdsR_of_owns (R := natR) (owns_keep hown.out kp3.out))) (by have := hlN.out; rw [List.length_map]; omega)).mono ?_
                    rintro e p4 ⟨rfl, hBz⟩
                    have kp4 : Hid (Below wr.heap.size wr p4) := hidden (kp3.out.trans (hBz.mono kp3.out.size))
                    clear hBz
                    have hSn := hcz.out p4 (hnx.out.trans (kp4.out.mono hnx.out.size))
                    refine hK.out _ _ ?_ (fun hNew => ?_)
                    · exact hSn
                    clear hK K hHeld
                    have hHeld := hNew
                    clear hNew
                    try simp only [List.setIfInBounds_toArray, List.set_cons_zero, List.set_cons_succ]
                    refine tail_list (is := [8]) (l := _) (by kernel_rfl) (by kernel_rfl) (by kernel_rfl) rfl ?_
                    simp only [List.filterMap_cons, List.filterMap_nil, at8]
                    show wpList _ _ _ (_ :: _) _ _
                    go_wp2_with fail
                    have hnx2 := hidden (hnx.out.trans (kp4.out.mono hnx.out.size))
                    have hown2 := hidden (owns_keep hown.out kp4.out)
                    obtain ⟨q9, hq9⟩ : ∃ q9, q9 = p4 := ⟨_, rfl⟩
                    clear hSn hHeld hv9h kp1 kp2 kp3 kp4
                    replace hq9 := hidden hq9
                    obtain ⟨⟨b0, b1⟩, -⟩ := box2f (hXY.out p4 hnx2.out)
                    have hfewp := hfew.out p4 hnx2.out
                    refine hfewp.mono ?_
                    rintro e r2 ⟨us, a3, n3, c3, b3, m3, d3, rfl, hU, hD⟩
                    have k2 : Hid (Below y.heap.size y r2) := hidden (hnx2.out.trans (hD.mono hnx2.out.size))
                    replace hown2 := hidden (owns_keep hown2.out hD)
                    clear hfewp hD b0 b1
                    by_cases hok : (checkG g).2 = 0
                    · have h2 := colNew_c g us a3 n3 c3 b3 m3 d3 r2 hU hsm.out hok
                      clear hU
                      go_wp2_with fail
                      refine h2.mono ?_
                      rintro e r3 ⟨C, rfl, hCs, hD⟩
                      have k3 : Hid (Below y.heap.size y r3) := hidden (k2.out.trans (hD.mono k2.out.size))
                      replace hown2 := hidden (owns_keep hown2.out hD)
                      replace hCs := hidden hCs
                      obtain ⟨⟨b0, b1⟩, -⟩ := box2f (hXY.out r3 k3.out)
                      have h3 := hgood.out r3 k3.out
                      rw [hok] at h3
                      have hcA : Hid (colT g.ns A.s A.o A.k A.n A.t = (bothN g.ns [A] g.ns.length).map fun (i : Nat) => (i : Int)) := hidden (colT_is hok A)
                      have hcB : Hid (colT g.ns B.s B.o B.k B.n B.t = (bothN g.ns [B] g.ns.length).map fun (i : Nat) => (i : Int)) := hidden (colT_is hok B)
                      replace hok := hidden hok
                      clear hD k2 h2 hgood
                      go_wp2_with fail
                      refine h3.mono ?_
                      rintro e r4 ⟨rfl, hD⟩
                      have k4 : Hid (Below y.heap.size y r4) := hidden (k3.out.trans (hD.mono k3.out.size))
                      replace hown2 := hidden (owns_keep hown2.out hD)
                      replace hCs := hidden (hCs.out.step hD)
                      clear hD k3 h3 b0 b1
                      go_wp2_with fail
                      have kk : Hid (Below r4.heap.size r4 r4.drew) := hidden (Below.refl _ _).drew
                      have hcr : Hid (∀ z, Below r4.heap.size r4 z → z.cell? ⟨w.heap.size, 0, none⟩ = some (.slice a n c) ∧ z.cell? ⟨w.heap.size, 1, none⟩ = some (.slice b m d) ∧ z.cell? ⟨w.heap.size + 1, 0, none⟩ = some (.string A.s) ∧ z.cell? ⟨w.heap.size + 1, 1, none⟩ = some (.int .i64 A.o) ∧ z.cell? ⟨w.heap.size + 1, 2, none⟩ = some (.int .i64 A.k) ∧ z.cell? ⟨w.heap.size + 1, 3, none⟩ = some (.int .i64 A.n) ∧ z.cell? ⟨w.heap.size + 1, 4, none⟩ = some (.string A.t) ∧ z.cell? ⟨w.heap.size + 2, 0, none⟩ = some (.string B.s) ∧ z.cell? ⟨w.heap.size + 2, 1, none⟩ = some (.int .i64 B.o) ∧ z.cell? ⟨w.heap.size + 2, 2, none⟩ = some (.int .i64 B.k) ∧ z.cell? ⟨w.heap.size + 2, 3, none⟩ = some (.int .i64 B.n) ∧ z.cell? ⟨w.heap.size + 2, 4, none⟩ = some (.string B.t)) := hidden fun z h => hcz.out z (k4.out.trans (h.mono k4.out.size))
                      have hea : Hid (∀ q : Tst, q.s.size ≤ maxLen → ∀ z, Below r4.heap.size r4 z → Calls Try.prog 30 #[.pointer (some ⟨C.gb, 0, none⟩), .agg #[.string q.s, .int .i64 q.o, .int .i64 q.k, .int .i64 q.n, .string q.t]] z fun e w' => ∃ v, e = .returned v ∧ w'.ownsRow z.heap.size 3 1 v (colT g.ns q.s q.o q.k q.n q.t).length (intR.flat (colT g.ns q.s q.o q.k q.n q.t)) ∧ Below z.heap.size z w') := hidden fun q hq z h => each_c g.ns C _ q z (hCs.out.step h) hq hN0 hps.out
                      have heA := hidden (hea.out A hA.out)
                      have heB := hidden (hea.out B hB.out)
                      rw [hcA.out] at heA
                      rw [hcB.out] at heB
                      have hS := hcr.out _ kk.out
                      go_region_held3 (fun z => z.cell? ⟨w.heap.size, 0, none⟩ = some (.slice a n c) ∧ z.cell? ⟨w.heap.size, 1, none⟩ = some (.slice b m d) ∧ z.cell? ⟨w.heap.size + 1, 0, none⟩ = some (.string A.s) ∧ z.cell? ⟨w.heap.size + 1, 1, none⟩ = some (.int .i64 A.o) ∧ z.cell? ⟨w.heap.size + 1, 2, none⟩ = some (.int .i64 A.k) ∧ z.cell? ⟨w.heap.size + 1, 3, none⟩ = some (.int .i64 A.n) ∧ z.cell? ⟨w.heap.size + 1, 4, none⟩ = some (.string A.t) ∧ z.cell? ⟨w.heap.size + 2, 0, none⟩ = some (.string B.s) ∧ z.cell? ⟨w.heap.size + 2, 1, none⟩ = some (.int .i64 B.o) ∧ z.cell? ⟨w.heap.size + 2, 2, none⟩ = some (.int .i64 B.k) ∧ z.cell? ⟨w.heap.size + 2, 3, none⟩ = some (.int .i64 B.n) ∧ z.cell? ⟨w.heap.size + 2, 4, none⟩ = some (.string B.t)) (first | exact hS | go_keep) (first
                        | (go_at_call_of 30 (Value.agg #[.string A.s, .int .i64 A.o, .int .i64 A.k, .int .i64 A.n, .string A.t]); refine (heA.out _ kk.out).mono ?_; rintro e y9 ⟨vx, rfl, hvx, hBz⟩
                           have kk := hidden (kk.out.trans (hBz.mono kk.out.size))
                           have hS := hcr.out y9 kk.out
                           have oX := hidden hvx)
                        | (go_at_call_of 30 (Value.agg #[.string B.s, .int .i64 B.o, .int .i64 B.k, .int .i64 B.n, .string B.t]); refine (heB.out _ kk.out).mono ?_; rintro e y9 ⟨vy, rfl, hvy, hBz⟩
                           have kk := hidden (kk.out.trans (hBz.mono kk.out.size))
                           have hS := hcr.out y9 kk.out
                           have oX := hidden (owns_keep oX.out hBz)
                           have oY := hidden hvy)
                        | fail)
                      have k9 : Hid (Below y.heap.size y y9) := hidden (k4.out.trans (kk.out.mono k4.out.size))
                      replace hown2 := hidden (owns_keep hown2.out kk.out)
                      obtain ⟨b0, b1, s0, s1, s2, s3, s4, -⟩ := hcr.out y9 kk.out
                      have hrA := rtest8_c g vs a n c b m d A y9 (hO2.out.below k9.out) hsm.out
                      clear hcr hea heA heB hCs hS kk k4 hown
                      go_wp2_with fail
                      refine hrA.mono ?_
                      rintro e r5 ⟨vr, rfl, hvr, hD⟩
                      have k5 : Hid (Below y.heap.size y r5) := hidden (k9.out.trans (hD.mono k9.out.size))
                      replace hown2 := hidden (owns_keep hown2.out hD)
                      replace oX := hidden (owns_keep oX.out hD)
                      replace oY := hidden (owns_keep oY.out hD)
                      have hsx := same_self _ _ _ r5 (intH (holdsR_of_owns (R := intR) oX.out)) (natH hvr) (by have := hlA.out; rw [List.length_map]; omega)
                      clear hD hrA hvr b0 b1 s0 s1 s2 s3 s4
                      go_wp2_with fail
                      refine hsx.mono ?_
                      rintro e r6 ⟨rfl, hD⟩
                      have k6 : Hid (Below y.heap.size y r6) := hidden (k5.out.trans (hD.mono k5.out.size))
                      replace hown2 := hidden (owns_keep hown2.out hD)
                      replace oX := hidden (slX (owns_keep oX.out hD))
                      replace oY := hidden (slX (owns_keep oY.out hD))
                      obtain ⟨ax, cx, hvx', hslx⟩ := oX.out
                      obtain ⟨ay, cy, hvy', hsly⟩ := oY.out
                      subst hvx'
                      subst hvy'
                      have hcm := common2_c ax ay cx cy _ _ 47 r6 _ _ (hidden (bothN_L g.ns [A] (by omega))) (hidden (bothN_L g.ns [B] (by omega))) hslx hsly
                      rw [both_two g.ns A B (by omega)] at hcm
                      clear hD hsx oX oY hslx hsly
                      go_wp2_with fail
                      refine hcm.mono ?_
                      rintro e r7 ⟨vc, rfl, hvc, hD⟩
                      have hD2 : Below r6.heap.size r6 r7 := by first | exact hD | exact ((Below.refl _ _).alloc (Nat.le_refl _) _).trans (hD.mono (by simp))
                      have k7 : Hid (Below y.heap.size y r7) := hidden (k6.out.trans (hD2.mono k6.out.size))
                      replace hown2 := hidden (owns_keep hown2.out hD2)
                      have hvc2 : Holds r7 vc (((bothN g.ns [A, B] g.ns.length).map fun (i : Nat) => (i : Int)).map (Value.int .i64)) := by
                        have e9 : (((bothN g.ns [A, B] g.ns.length).map fun (i : Nat) => (i : Int)).map (Value.int .i64)) = ints (bothN g.ns [A, B] g.ns.length) := by unfold ints; rw [List.map_map]; rfl
                        rw [e9]; exact hvc
                      have hs9 := same_self _ _ _ r7 hvc2 (natH (holdsR_of_owns (R := natR) hown2.out)) (by have := hlN.out; rw [List.length_map]; omega)
                      clear hD hD2 hcm hvc hvc2 hown2
                      go_wp2_with fail
                      refine hs9.mono ?_
                      rintro e r8 ⟨rfl, hD⟩
                      have k8 : Hid (Below w.heap.size w r8) := hidden (hC2.out.trans ((k7.out.trans (hD.mono k7.out.size)).mono hC2.out.size))
                      have h9 := hlv r8 (.of_below k8.out)
                      clear hD hs9 k7 hlv
                      go_wp2_with fail
                      refine h9.mono ?_
                      rintro e r9 ⟨rfl, hD⟩
                      have hfin : Hid (GoX.Calm w r9) := GoX.Calm.trans (.of_below k8.out) hD
                      clear hD h9 k8
                      go_wp2
                      go_ret
                      exact ⟨by first | done | rfl | simp, hfin.out⟩
                    · have h2 := colBad_c g us a3 n3 c3 b3 m3 d3 r2 hU hsm.out hok
                      clear hU
                      have g2 : ((checkG g).2 != 0) = true := by simp [hok]
                      have g3 : ((checkG g).2 == 0) = false := by simp [hok]
                      replace hok := hidden hok
                      go_wp2_with fail
                      refine h2.mono ?_
                      rintro e r3 ⟨rfl, hD⟩
                      have k3 : Hid (Below y.heap.size y r3) := hidden (k2.out.trans (hD.mono k2.out.size))
                      obtain ⟨⟨b0, b1⟩, -⟩ := box2f (hXY.out r3 k3.out)
                      have h3 := hgood.out r3 k3.out
                      rw [g3] at h3
                      generalize (checkG g).2 = q at *
                      clear hD k2 h2 hgood hown2 hown
                      go_wp2_with fail
                      refine h3.mono ?_
                      rintro e r4 ⟨rfl, hD⟩
                      have k4 : Hid (Below y.heap.size y r4) := hidden (k3.out.trans (hD.mono k3.out.size))
                      obtain ⟨-, -, s0, s1, s2, s3, s4, -⟩ := hcz.out r4 k4.out
                      have h5 := eachNil_c A r4
                      clear hD k3 h3 b0 b1
                      go_wp2_with fail
                      refine h5.mono ?_
                      rintro e r5 ⟨rfl, hD⟩
                      have k5 : Hid (Below w.heap.size w r5) := hidden (hC2.out.trans ((k4.out.trans (hD.mono k4.out.size)).mono hC2.out.size))
                      have h6 := hlv r5 (.of_below k5.out)
                      clear hD k4 h5 s0 s1 s2 s3 s4 hlv
                      go_wp2_with fail
                      refine h6.mono ?_
                      rintro e r9 ⟨rfl, hD⟩
                      have hfin : Hid (GoX.Calm w r9) := GoX.Calm.trans (.of_below k5.out) hD
                      clear hD h6 k5
                      go_wp2
                      go_ret
                      exact ⟨by first | done | rfl | simp, hfin.out⟩
                  exact AllReadyH.nil
                exact AllReadyH.nil
              exact AllReadyH.nil
            refine AllReadyH.cons (i := 4) at4 (fun K hK => ?_) ?_
            · go_simp
              generalize hz : World.drew (World.alloc wr (.cells #[.string A.s, .int .i64 A.o, .int .i64 A.k, .int .i64 A.n, .string A.t, .string B.s, .int .i64 B.o, .int .i64 B.k, .int .i64 B.n, .string B.t] 62)) = p1
              have hbn : Below wr.heap.size wr p1 := by
                rw [← hz]
                first | exact (Below.refl _ _).alloc (Nat.le_refl _) _ | exact ((Below.refl _ _).alloc (Nat.le_refl _) _).drew
              have htr : Hid (RowAt p1 (some ⟨wr.heap.size, 0, none⟩) (testR.flat [A, B])) := hidden (by rw [← hz]; exact two_row wr A B)
              have kp1 : Hid (Below wr.heap.size wr p1) := hidden (hbn)
              clear hz hbn
              have hSn := hcz.out p1 (hnx.out.trans (kp1.out.mono hnx.out.size))
              refine hK.out _ _ ?_ (fun hNew => ?_)
              · exact hSn
              clear hK K hHeld
              have hHeld := hNew
              clear hNew
              try simp only [List.setIfInBounds_toArray, List.set_cons_zero, List.set_cons_succ]
              refine wpAnyH_ready (rs := [1]) (by kernel_rfl) (by simp) ?_
              refine AllReadyH.cons (i := 1) at1 (fun K hK => ?_) ?_
              · go_simp
                refine (hfew.out _ (hnx.out.trans (kp1.out.mono hnx.out.size))).mono ?_
                rintro e p2 ⟨us, a3, n3, c3, b3, m3, d3, rfl, hU, hBz⟩
                have kp2 : Hid (Below wr.heap.size wr p2) := hidden (kp1.out.trans (hBz.mono kp1.out.size))
                replace hU := hidden hU
                replace htr := hidden (htr.out.below hBz)
                clear hBz
                have hSn := hcz.out p2 (hnx.out.trans (kp2.out.mono hnx.out.size))
                refine hK.out _ _ ?_ (fun hNew => ?_)
                · exact hSn
                clear hK K hHeld
                have hHeld := hNew
                clear hNew
                try simp only [List.setIfInBounds_toArray, List.set_cons_zero, List.set_cons_succ]
                refine wpAnyH_ready (rs := [5]) (by kernel_rfl) (by simp) ?_
                refine AllReadyH.cons (i := 5) at5 (fun K hK => ?_) ?_
                · go_simp
                  refine (all_c g us a3 n3 c3 b3 m3 d3 [A, B] _ 2 p2 hU.out hsm.out htr.out (by simp)).mono ?_
                  rintro e p3 ⟨v9, rfl, hv9, hBz⟩
                  have kp3 : Hid (Below wr.heap.size wr p3) := hidden (kp2.out.trans (hBz.mono kp2.out.size))
                  have hv9h := hidden (natH (holdsR_of_owns (R := natR) hv9))
                  clear hv9 hBz hU htr
                  have hSn := hcz.out p3 (hnx.out.trans (kp3.out.mono hnx.out.size))
                  refine hK.out _ _ ?_ (fun hNew => ?_)
                  · exact hSn
                  clear hK K hHeld
                  have hHeld := hNew
                  clear hNew
                  try simp only [List.setIfInBounds_toArray, List.set_cons_zero, List.set_cons_succ]
                  refine wpAnyH_ready (rs := [7]) (by kernel_rfl) (by simp) ?_
                  refine AllReadyH.cons (i := 7) at7 (fun K hK => ?_) ?_
                  · go_simp
                    refine (same_self _ _ _ _ hv9h.out (natH (holdsR_of_owns (R := natR) (owns_keep hown.out kp3.out))) (by have := hlN.out; rw [List.length_map]; omega)).mono ?_
                    rintro e p4 ⟨rfl, hBz⟩
                    have kp4 : Hid (Below wr.heap.size wr p4) := hidden (kp3.out.trans (hBz.mono kp3.out.size))
                    clear hBz
                    have hSn := hcz.out p4 (hnx.out.trans (kp4.out.mono hnx.out.size))
                    refine hK.out _ _ ?_ (fun hNew => ?_)
                    · exact hSn
                    clear hK K hHeld
                    have hHeld := hNew
                    clear hNew
                    try simp only [List.setIfInBounds_toArray, List.set_cons_zero, List.set_cons_succ]
                    refine tail_list (is := [8]) (l := _) (by kernel_rfl) (by kernel_rfl) (by kernel_rfl) rfl ?_
                    simp only [List.filterMap_cons, List.filterMap_nil, at8]
                    show wpList _ _ _ (_ :: _) _ _
                    go_wp2_with fail
                    have hnx2 := hidden (hnx.out.trans (kp4.out.mono hnx.out.size))
                    have hown2 := hidden (owns_keep hown.out kp4.out)
                    obtain ⟨q9, hq9⟩ : ∃ q9, q9 = p4 := ⟨_, rfl⟩
                    clear hSn hHeld hv9h kp1 kp2 kp3 kp4
                    replace hq9 := hidden hq9
                    obtain ⟨⟨b0, b1⟩, -⟩ := box2f (hXY.out p4 hnx2.out)
                    have hfewp := hfew.out p4 hnx2.out
                    refine hfewp.mono ?_
                    rintro e r2 ⟨us, a3, n3, c3, b3, m3, d3, rfl, hU, hD⟩
                    have k2 : Hid (Below y.heap.size y r2) := hidden (hnx2.out.trans (hD.mono hnx2.out.size))
                    replace hown2 := hidden (owns_keep hown2.out hD)
                    clear hfewp hD b0 b1
                    by_cases hok : (checkG g).2 = 0
                    · have h2 := colNew_c g us a3 n3 c3 b3 m3 d3 r2 hU hsm.out hok
                      clear hU
                      go_wp2_with fail
                      refine h2.mono ?_
                      rintro e r3 ⟨C, rfl, hCs, hD⟩
                      have k3 : Hid (Below y.heap.size y r3) := hidden (k2.out.trans (hD.mono k2.out.size))
                      replace hown2 := hidden (owns_keep hown2.out hD)
                      replace hCs := hidden hCs
                      obtain ⟨⟨b0, b1⟩, -⟩ := box2f (hXY.out r3 k3.out)
                      have h3 := hgood.out r3 k3.out
                      rw [hok] at h3
                      have hcA : Hid (colT g.ns A.s A.o A.k A.n A.t = (bothN g.ns [A] g.ns.length).map fun (i : Nat) => (i : Int)) := hidden (colT_is hok A)
                      have hcB : Hid (colT g.ns B.s B.o B.k B.n B.t = (bothN g.ns [B] g.ns.length).map fun (i : Nat) => (i : Int)) := hidden (colT_is hok B)
                      replace hok := hidden hok
                      clear hD k2 h2 hgood
                      go_wp2_with fail
                      refine h3.mono ?_
                      rintro e r4 ⟨rfl, hD⟩
                      have k4 : Hid (Below y.heap.size y r4) := hidden (k3.out.trans (hD.mono k3.out.size))
                      replace hown2 := hidden (owns_keep hown2.out hD)
                      replace hCs := hidden (hCs.out.step hD)
                      clear hD k3 h3 b0 b1
                      go_wp2_with fail
                      have kk : Hid (Below r4.heap.size r4 r4.drew) := hidden (Below.refl _ _).drew
                      have hcr : Hid (∀ z, Below r4.heap.size r4 z → z.cell? ⟨w.heap.size, 0, none⟩ = some (.slice a n c) ∧ z.cell? ⟨w.heap.size, 1, none⟩ = some (.slice b m d) ∧ z.cell? ⟨w.heap.size + 1, 0, none⟩ = some (.string A.s) ∧ z.cell? ⟨w.heap.size + 1, 1, none⟩ = some (.int .i64 A.o) ∧ z.cell? ⟨w.heap.size + 1, 2, none⟩ = some (.int .i64 A.k) ∧ z.cell? ⟨w.heap.size + 1, 3, none⟩ = some (.int .i64 A.n) ∧ z.cell? ⟨w.heap.size + 1, 4, none⟩ = some (.string A.t) ∧ z.cell? ⟨w.heap.size + 2, 0, none⟩ = some (.string B.s) ∧ z.cell? ⟨w.heap.size + 2, 1, none⟩ = some (.int .i64 B.o) ∧ z.cell? ⟨w.heap.size + 2, 2, none⟩ = some (.int .i64 B.k) ∧ z.cell? ⟨w.heap.size + 2, 3, none⟩ = some (.int .i64 B.n) ∧ z.cell? ⟨w.heap.size + 2, 4, none⟩ = some (.string B.t)) := hidden fun z h => hcz.out z (k4.out.trans (h.mono k4.out.size))
                      have hea : Hid (∀ q : Tst, q.s.size ≤ maxLen → ∀ z, Below r4.heap.size r4 z → Calls Try.prog 30 #[.pointer (some ⟨C.gb, 0, none⟩), .agg #[.string q.s, .int .i64 q.o, .int .i64 q.k, .int .i64 q.n, .string q.t]] z fun e w' => ∃ v, e = .returned v ∧ w'.ownsRow z.heap.size 3 1 v (colT g.ns q.s q.o q.k q.n q.t).length (intR.flat (colT g.ns q.s q.o q.k q.n q.t)) ∧ Below z.heap.size z w') := hidden fun q hq z h => each_c g.ns C _ q z (hCs.out.step h) hq hN0 hps.out
                      have heA := hidden (hea.out A hA.out)
                      have heB := hidden (hea.out B hB.out)
                      rw [hcA.out] at heA
                      rw [hcB.out] at heB
                      have hS := hcr.out _ kk.out
                      go_region_held3 (fun z => z.cell? ⟨w.heap.size, 0, none⟩ = some (.slice a n c) ∧ z.cell? ⟨w.heap.size, 1, none⟩ = some (.slice b m d) ∧ z.cell? ⟨w.heap.size + 1, 0, none⟩ = some (.string A.s) ∧ z.cell? ⟨w.heap.size + 1, 1, none⟩ = some (.int .i64 A.o) ∧ z.cell? ⟨w.heap.size + 1, 2, none⟩ = some (.int .i64 A.k) ∧ z.cell? ⟨w.heap.size + 1, 3, none⟩ = some (.int .i64 A.n) ∧ z.cell? ⟨w.heap.size + 1, 4, none⟩ = some (.string A.t) ∧ z.cell? ⟨w.heap.size + 2, 0, none⟩ = some (.string B.s) ∧ z.cell? ⟨w.heap.size + 2, 1, none⟩ = some (.int .i64 B.o) ∧ z.cell? ⟨w.heap.size + 2, 2, none⟩ = some (.int .i64 B.k) ∧ z.cell? ⟨w.heap.size + 2, 3, none⟩ = some (.int .i64 B.n) ∧ z.cell? ⟨w.heap.size + 2, 4, none⟩ = some (.string B.t)) (first | exact hS | go_keep) (first
                        | (go_at_call_of 30 (Value.agg #[.string A.s, .int .i64 A.o, .int .i64 A.k, .int .i64 A.n, .string A.t]); refine (heA.out _ kk.out).mono ?_; rintro e y9 ⟨vx, rfl, hvx, hBz⟩
                           have kk := hidden (kk.out.trans (hBz.mono kk.out.size))
                           have hS := hcr.out y9 kk.out
                           have oX := hidden hvx)
                        | (go_at_call_of 30 (Value.agg #[.string B.s, .int .i64 B.o, .int .i64 B.k, .int .i64 B.n, .string B.t]); refine (heB.out _ kk.out).mono ?_; rintro e y9 ⟨vy, rfl, hvy, hBz⟩
                           have kk := hidden (kk.out.trans (hBz.mono kk.out.size))
                           have hS := hcr.out y9 kk.out
                           have oX := hidden (owns_keep oX.out hBz)
                           have oY := hidden hvy)
                        | fail)
                      have k9 : Hid (Below y.heap.size y y9) := hidden (k4.out.trans (kk.out.mono k4.out.size))
                      replace hown2 := hidden (owns_keep hown2.out kk.out)
                      obtain ⟨b0, b1, s0, s1, s2, s3, s4, -⟩ := hcr.out y9 kk.out
                      have hrA := rtest8_c g vs a n c b m d A y9 (hO2.out.below k9.out) hsm.out
                      clear hcr hea heA heB hCs hS kk k4 hown
                      go_wp2_with fail
                      refine hrA.mono ?_
                      rintro e r5 ⟨vr, rfl, hvr, hD⟩
                      have k5 : Hid (Below y.heap.size y r5) := hidden (k9.out.trans (hD.mono k9.out.size))
                      replace hown2 := hidden (owns_keep hown2.out hD)
                      replace oX := hidden (owns_keep oX.out hD)
                      replace oY := hidden (owns_keep oY.out hD)
                      have hsx := same_self _ _ _ r5 (intH (holdsR_of_owns (R := intR) oX.out)) (natH hvr) (by have := hlA.out; rw [List.length_map]; omega)
                      clear hD hrA hvr b0 b1 s0 s1 s2 s3 s4
                      go_wp2_with fail
                      refine hsx.mono ?_
                      rintro e r6 ⟨rfl, hD⟩
                      have k6 : Hid (Below y.heap.size y r6) := hidden (k5.out.trans (hD.mono k5.out.size))
                      replace hown2 := hidden (owns_keep hown2.out hD)
                      replace oX := hidden (slX (owns_keep oX.out hD))
                      replace oY := hidden (slX (owns_keep oY.out hD))
                      obtain ⟨ax, cx, hvx', hslx⟩ := oX.out
                      obtain ⟨ay, cy, hvy', hsly⟩ := oY.out
                      subst hvx'
                      subst hvy'
                      have hcm := common2_c ax ay cx cy _ _ 47 r6 _ _ (hidden (bothN_L g.ns [A] (by omega))) (hidden (bothN_L g.ns [B] (by omega))) hslx hsly
                      rw [both_two g.ns A B (by omega)] at hcm
                      clear hD hsx oX oY hslx hsly
                      go_wp2_with fail
                      refine hcm.mono ?_
                      rintro e r7 ⟨vc, rfl, hvc, hD⟩
                      have hD2 : Below r6.heap.size r6 r7 := by first | exact hD | exact ((Below.refl _ _).alloc (Nat.le_refl _) _).trans (hD.mono (by simp))
                      have k7 : Hid (Below y.heap.size y r7) := hidden (k6.out.trans (hD2.mono k6.out.size))
                      replace hown2 := hidden (owns_keep hown2.out hD2)
                      have hvc2 : Holds r7 vc (((bothN g.ns [A, B] g.ns.length).map fun (i : Nat) => (i : Int)).map (Value.int .i64)) := by
                        have e9 : (((bothN g.ns [A, B] g.ns.length).map fun (i : Nat) => (i : Int)).map (Value.int .i64)) = ints (bothN g.ns [A, B] g.ns.length) := by unfold ints; rw [List.map_map]; rfl
                        rw [e9]; exact hvc
                      have hs9 := same_self _ _ _ r7 hvc2 (natH (holdsR_of_owns (R := natR) hown2.out)) (by have := hlN.out; rw [List.length_map]; omega)
                      clear hD hD2 hcm hvc hvc2 hown2
                      go_wp2_with fail
                      refine hs9.mono ?_
                      rintro e r8 ⟨rfl, hD⟩
                      have k8 : Hid (Below w.heap.size w r8) := hidden (hC2.out.trans ((k7.out.trans (hD.mono k7.out.size)).mono hC2.out.size))
                      have h9 := hlv r8 (.of_below k8.out)
                      clear hD hs9 k7 hlv
                      go_wp2_with fail
                      refine h9.mono ?_
                      rintro e r9 ⟨rfl, hD⟩
                      have hfin : Hid (GoX.Calm w r9) := GoX.Calm.trans (.of_below k8.out) hD
                      clear hD h9 k8
                      go_wp2
                      go_ret
                      exact ⟨by first | done | rfl | simp, hfin.out⟩
                    · have h2 := colBad_c g us a3 n3 c3 b3 m3 d3 r2 hU hsm.out hok
                      clear hU
                      have g2 : ((checkG g).2 != 0) = true := by simp [hok]
                      have g3 : ((checkG g).2 == 0) = false := by simp [hok]
                      replace hok := hidden hok
                      go_wp2_with fail
                      refine h2.mono ?_
                      rintro e r3 ⟨rfl, hD⟩
                      have k3 : Hid (Below y.heap.size y r3) := hidden (k2.out.trans (hD.mono k2.out.size))
                      obtain ⟨⟨b0, b1⟩, -⟩ := box2f (hXY.out r3 k3.out)
                      have h3 := hgood.out r3 k3.out
                      rw [g3] at h3
                      generalize (checkG g).2 = q at *
                      clear hD k2 h2 hgood hown2 hown
                      go_wp2_with fail
                      refine h3.mono ?_
                      rintro e r4 ⟨rfl, hD⟩
                      have k4 : Hid (Below y.heap.size y r4) := hidden (k3.out.trans (hD.mono k3.out.size))
                      obtain ⟨-, -, s0, s1, s2, s3, s4, -⟩ := hcz.out r4 k4.out
                      have h5 := eachNil_c A r4
                      clear hD k3 h3 b0 b1
                      go_wp2_with fail
                      refine h5.mono ?_
                      rintro e r5 ⟨rfl, hD⟩
                      have k5 : Hid (Below w.heap.size w r5) := hidden (hC2.out.trans ((k4.out.trans (hD.mono k4.out.size)).mono hC2.out.size))
                      have h6 := hlv r5 (.of_below k5.out)
                      clear hD k4 h5 s0 s1 s2 s3 s4 hlv
                      go_wp2_with fail
                      refine h6.mono ?_
                      rintro e r9 ⟨rfl, hD⟩
                      have hfin : Hid (GoX.Calm w r9) := GoX.Calm.trans (.of_below k5.out) hD
                      clear hD h6 k5
                      go_wp2
                      go_ret
                      exact ⟨by first | done | rfl | simp, hfin.out⟩
                  exact AllReadyH.nil
                exact AllReadyH.nil
              exact AllReadyH.nil
            exact AllReadyH.nil
      exact AllReadyH.nil
    exact AllReadyH.nil
  exact AllReadyH.nil
end Go.Proofs.Ytnmjhbnadfjapaa
