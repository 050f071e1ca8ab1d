/-
  WHICH AUTOMATA ARE THE SAME, AND THAT ONE IN MEMORY OF ITS OWN IS NOBODY ELSE'S: the law's own walk.
-/
import Derived.Test.YtfdbedeidcaonabDoorDInv
import Derived.Test.YtfdbedeidcaonabDoorDRSame
namespace Go.Proofs.YtfdbedeidcaonabDoor
open Go.ChangeShapes Go.WideShapes Go.ChangeAt Go.RowKit

theorem own_k {w : World} {B t s n m : Nat} {v : Value} {xs : List Value} (h : w.ownsRow B t s v n xs) (e : n = m) : ∃ a c, v = .slice a m c := shape_k h e
theorem OwnD.shape {B : Nat} {d : Df} {vs : List RwV} {sv nv av : Value} {x : World} (h : OwnD B d vs sv nv av x) : ∃ a1 c1 a2 c2 a3 c3, sv = .slice a1 d.ss.length c1 ∧ nv = .slice a2 d.ns.length c2 ∧ av = .slice a3 d.ac.length c3 := by
  obtain ⟨a1, c1, h1⟩ := own_shape h.rs
  obtain ⟨a2, c2, h2⟩ := own_k h.rn.row h.rn.len
  obtain ⟨a3, c3, h3⟩ := own_shape h.ra
  exact ⟨a1, c1, a2, c2, a3, c3, h1, h2, h3⟩
theorem OwnD.set {B : Nat} {d : Df} {vs : List RwV} {sv nv av : Value} {x : World} {b : Nat} {cs : Array Value} (h : OwnD B d vs sv nv av x) (hb : x.heap[b]? = some (.cells cs 26)) (j : Nat) (v : Value) : OwnD B d vs sv nv av (x.setCell ⟨b, j, none⟩ v) :=
  ⟨own_set h.rs hb (by decide) _ _, h.rn.set hb j v, own_set h.ra hb (by decide) _ _⟩
theorem fewS_c (sv nv av : Value) (d : Df) (w : World) (hv : HoldsD w sv nv av d) (hw : d.wf) :
    Calls Tryd.prog 4 #[.agg #[sv, nv, av]] w fun e w' => ∃ a1 c1 a2 c2 a3 c3, e = .returned (.agg #[.slice a1 d.few.ss.length c1, .slice a2 d.few.ns.length c2, .slice a3 d.few.ac.length c3]) ∧ Hid (∃ vs, OwnD w.heap.size d.few vs (.slice a1 d.few.ss.length c1) (.slice a2 d.few.ns.length c2) (.slice a3 d.few.ac.length c3) w') ∧ Below w.heap.size w w' :=
  (dfew_c sv nv av d w hv hw).mono fun e w' ⟨s, n, a, he, ⟨vs, ho⟩, hB⟩ => by
    obtain ⟨a1, c1, a2, c2, a3, c3, rfl, rfl, rfl⟩ := ho.shape
    exact ⟨a1, c1, a2, c2, a3, c3, he, ⟨vs, ho⟩, hB⟩
theorem ownS_c (B : Nat) (sv nv av : Value) (d : Df) (vs : List RwV) (w : World) (hv : OwnD B d vs sv nv av w) (h1 : d.ss.length ≤ 1000) (h2 : d.ns.length ≤ 1000) (h3 : d.ac.length ≤ 1000) (h4 : ∀ l ∈ d.ns, l.length ≤ 1000) :
    Calls Tryd.prog 5 #[.agg #[sv, nv, av]] w fun e w' => ∃ a1 c1 a2 c2 a3 c3, e = .returned (.agg #[.slice a1 d.ss.length c1, .slice a2 d.ns.length c2, .slice a3 d.ac.length c3]) ∧ Hid (∃ vs, OwnD w.heap.size d vs (.slice a1 d.ss.length c1) (.slice a2 d.ns.length c2) (.slice a3 d.ac.length c3) w') ∧ Below w.heap.size w w' :=
  (down_c B sv nv av d vs w hv h1 h2 h3 h4).mono fun e w' ⟨s, n, a, he, ⟨vs, ho⟩, hB⟩ => by
    obtain ⟨a1, c1, a2, c2, a3, c3, rfl, rfl, rfl⟩ := ho.shape
    exact ⟨a1, c1, a2, c2, a3, c3, he, ⟨vs, ho⟩, hB⟩
theorem twoE (w : World) (a b c d e f : Value) : ((w.alloc (.cells #[a, b, c] 26)).alloc (.cells #[d, e, f] 26)).heap[w.heap.size]? = some (.cells #[a, b, c] 26) ∧
    ((w.alloc (.cells #[a, b, c] 26)).alloc (.cells #[d, e, f] 26)).heap[w.heap.size + 1]? = some (.cells #[d, e, f] 26) ∧
    Below w.heap.size w ((w.alloc (.cells #[a, b, c] 26)).alloc (.cells #[d, e, f] 26)) := by
  refine ⟨?_, ?_, ((Below.refl _ _).alloc (Nat.le_refl _) _).alloc (by show _ ≤ (w.heap.push _).size; simp) _⟩
  · show ((w.heap.push _).push _)[_]? = _
    rw [Array.getElem?_push, if_neg (by simp), Array.getElem?_push, if_pos rfl]
  · show ((w.heap.push _).push _)[_]? = _
    rw [Array.getElem?_push, if_pos (by simp)]
/-- Both boxes laid anew. -/
theorem both3 {w z : World} {b : Nat} {p q : Array Value} {p1 p2 p3 q1 q2 q3 : Value} (hC : GoX.Calm w z) (hb : w.heap.size ≤ b) (h0 : z.heap[b]? = some (.cells #[p.getD 0 undef, p.getD 1 undef, p.getD 2 undef] 26)) (h1 : z.heap[b + 1]? = some (.cells #[q.getD 0 undef, q.getD 1 undef, q.getD 2 undef] 26)) {B1 B2 : Nat} {d e : Df} {s n a s' n' a' : Value}
    (hP : ∃ vs, OwnD B1 d vs s n a z) (hO : ∃ vs, OwnD B2 e vs s' n' a' z) :
    GoX.Calm w ((((((z.setCell ⟨b, 0, none⟩ p1).setCell ⟨b, 1, none⟩ p2).setCell ⟨b, 2, none⟩ p3).setCell ⟨b + 1, 0, none⟩ q1).setCell ⟨b + 1, 1, none⟩ q2).setCell ⟨b + 1, 2, none⟩ q3) ∧
    ((((((z.setCell ⟨b, 0, none⟩ p1).setCell ⟨b, 1, none⟩ p2).setCell ⟨b, 2, none⟩ p3).setCell ⟨b + 1, 0, none⟩ q1).setCell ⟨b + 1, 1, none⟩ q2).setCell ⟨b + 1, 2, none⟩ q3).heap[b]? = some (.cells #[p1, p2, p3] 26) ∧
    ((((((z.setCell ⟨b, 0, none⟩ p1).setCell ⟨b, 1, none⟩ p2).setCell ⟨b, 2, none⟩ p3).setCell ⟨b + 1, 0, none⟩ q1).setCell ⟨b + 1, 1, none⟩ q2).setCell ⟨b + 1, 2, none⟩ q3).heap[b + 1]? = some (.cells #[q1, q2, q3] 26) ∧
    (∃ vs, OwnD B1 d vs s n a ((((((z.setCell ⟨b, 0, none⟩ p1).setCell ⟨b, 1, none⟩ p2).setCell ⟨b, 2, none⟩ p3).setCell ⟨b + 1, 0, none⟩ q1).setCell ⟨b + 1, 1, none⟩ q2).setCell ⟨b + 1, 2, none⟩ q3)) ∧
    (∃ vs, OwnD B2 e vs s' n' a' ((((((z.setCell ⟨b, 0, none⟩ p1).setCell ⟨b, 1, none⟩ p2).setCell ⟨b, 2, none⟩ p3).setCell ⟨b + 1, 0, none⟩ q1).setCell ⟨b + 1, 1, none⟩ q2).setCell ⟨b + 1, 2, none⟩ q3)) := by
  have s0 := set_heap h0 0 p1
  have s1 := set_heap s0 1 p2
  have s2 := set_heap s1 2 p3
  have t0 := set_oth (set_oth (set_oth h1 (show b ≠ b + 1 by omega) 0 p1) (show b ≠ b + 1 by omega) 1 p2) (show b ≠ b + 1 by omega) 2 p3
  have t1 := set_heap t0 0 q1
  have t2 := set_heap t1 1 q2
  have t3 := set_heap t2 2 q3
  have s3 := set_oth (set_oth (set_oth s2 (show b + 1 ≠ b by omega) 0 q1) (show b + 1 ≠ b by omega) 1 q2) (show b + 1 ≠ b by omega) 2 q3
  obtain ⟨vs, hP⟩ := hP
  obtain ⟨ws, hO⟩ := hO
  exact ⟨calm_set (calm_set (calm_set (calm_set (calm_set (calm_set hC hb _) hb _) hb _) (show w.heap.size ≤ b + 1 by omega) _) (show w.heap.size ≤ b + 1 by omega) _) (show w.heap.size ≤ b + 1 by omega) _, s3, t3,
    ⟨vs, (((((hP.set h0 0 p1).set s0 1 p2).set s1 2 p3).set t0 0 q1).set t1 1 q2).set t2 2 q3⟩, ⟨ws, (((((hO.set h0 0 p1).set s0 1 p2).set s1 2 p3).set t0 0 q1).set t1 1 q2).set t2 2 q3⟩⟩
theorem Spoil.drew {y1 y3 : World} {hi : Nat} {un : Value} {vs : List RwV} {ba : Option Addr} {bn : Nat} {x : World} (h : Spoil y1 y3 hi un vs ba bn x) : Spoil y1 y3 hi un vs ba bn x.drew :=
  ⟨h.below.drew, h.above, owns_keep h.row ((Below.refl _ _).drew), h.each, h.bools⟩
theorem own_above {w x : World} {B t s n : Nat} {v : Value} {xs : List Value} (h : w.ownsRow B t s v n xs) (ha : ∀ g, B ≤ g → x.heap[g]? = w.heap[g]?) : x.ownsRow B t s v n xs := by
  obtain ⟨hl, h⟩ := h
  refine ⟨hl, ?_⟩
  rcases h with h | ⟨g, cap, cur, h1, h2, h3, h4⟩
  · exact .inl h
  · exact .inr ⟨g, cap, cur, h1, h2, (ha g h2).trans h3, h4⟩
theorem OwnD.above {B : Nat} {d : Df} {vs : List RwV} {sv nv av : Value} {w x : World} (h : OwnD B d vs sv nv av w) (ha : ∀ g, B ≤ g → x.heap[g]? = w.heap[g]?) : OwnD B d vs sv nv av x :=
  ⟨own_above h.rs ha, ⟨own_above h.rn.row ha, h.rn.len, fun i hi => own_above (h.rn.each i hi) ha⟩, own_above h.ra ha⟩
theorem dEq_self (x : Df) : dEq x x = true := by
  unfold dEq
  rw [eqAll_self _ symEq_self, eqAll_self _ (fun b => by simp), eqAll_self _ (fun l => by simp [rowEq])]
  rfl
theorem box_calmD {x y : World} {b : Nat} {o : Obj} (h : x.heap[b]? = some o) (hc : GoX.Calm x y) : y.heap[b]? = some o := (hc.block _ (Array.getElem?_eq_some_iff.1 h).1).trans h
set_option maxHeartbeats 12800000 in
set_option maxRecDepth 100000 in
theorem law_c (X Y : Df) (s1 n1 a1 s2 n2 a2 : Value) (w : World) (hX : HoldsD w s1 n1 a1 X) (hY : HoldsD w s2 n2 a2 Y) (hwX : X.wf) (hwY : Y.wf)
    (hlv : ∀ x, GoX.Calm w x → Calls Tryd.prog 8 #[] x fun e w' => e = .returned (.bool true) ∧ GoX.Calm x w') :
    Calls Tryd.prog 3 #[.agg #[s1, n1, a1], .agg #[s2, n2, a2]] w fun e w' => e = .returned (.bool true) ∧ GoX.Calm w w' := by
  obtain ⟨pa, pc, rfl, -⟩ := id hX.1
  obtain ⟨pb, pd, rfl⟩ := hX.2.1.slice
  obtain ⟨pe, pf, rfl, -⟩ := id hX.2.2
  obtain ⟨qa, qc, rfl, -⟩ := id hY.1
  obtain ⟨qb, qd, rfl⟩ := hY.2.1.slice
  obtain ⟨qe, qf, rfl, -⟩ := id hY.2.2
  obtain ⟨tA, tB, tC⟩ := twoE w (.slice pa X.ss.length pc) (.slice pb X.ns.length pd) (.slice pe X.ac.length pf) (.slice qa Y.ss.length qc) (.slice qb Y.ns.length qd) (.slice qe Y.ac.length qf)
  have hfa : ∀ x, GoX.Calm w x → _ := fun x h => fewS_c _ _ _ X x (hX.calm h) hwX
  have hfb : ∀ x, GoX.Calm w x → _ := fun x h => fewS_c _ _ _ Y x (hY.calm h) hwY
  have hD1 := Df.few_few X
  have hE1 := Df.few_few Y
  have hD2 := Df.few_wf hwX
  have hE2 := Df.few_wf hwY
  have hD3 := X.few_len
  have hD4 := X.few_small
  have hE4 := Y.few_small
  generalize X.few = D at *
  generalize Y.few = E at *
  generalize X.ss.length = x1 at *
  generalize X.ns.length = x2 at *
  generalize X.ac.length = x3 at *
  generalize Y.ss.length = y1 at *
  generalize Y.ns.length = y2 at *
  generalize Y.ac.length = y3 at *
  obtain ⟨w0, hw0⟩ : ∃ w0, Hid (w0 = (w.alloc (.cells #[.slice pa x1 pc, .slice pb x2 pd, .slice pe x3 pf] 26)).alloc (.cells #[.slice qa y1 qc, .slice qb y2 qd, .slice qe y3 qf] 26)) := ⟨_, (rfl : _ = _)⟩
  rw [← hw0.out] at tA tB tC
  obtain ⟨⟨g0, g1, g2⟩, -⟩ := box3g tA
  obtain ⟨⟨g3, g4, g5⟩, -⟩ := box3g tB
  replace tA := hidden tA
  replace tB := hidden tB
  replace tC := hidden tC
  have kk : Hid (Below w0.heap.size w0 w0.drew) := (Below.refl _ _).drew
  replace hX := hidden hX
  replace hY := hidden hY
  go_enter Tryd.func3, Tryd.ntmps3
  go_wp2_with fail
  rw [← hw0.out]
  refine Code.wp_mono (Q := fun e a' x => e = Exit.normal ∧ ∃ a1 c1 a2 c2 a3 c3 b1 d1 b2 d2 b3 d3, a' = ({ tmps := List.toArray (.agg #[.slice pa x1 pc, .slice pb x2 pd, .slice pe x3 pf] :: .agg #[.slice qa y1 qc, .slice qb y2 qd, .slice qe y3 qf] :: .pointer (some ⟨w.heap.size, 0, none⟩) :: .pointer (some ⟨w.heap.size + 1, 0, none⟩) :: .bool false :: undef :: undef :: undef :: undef :: undef :: .agg #[.slice pa x1 pc, .slice pb x2 pd, .slice pe x3 pf] :: .agg #[.slice a1 D.ss.length c1, .slice a2 D.ns.length c2, .slice a3 D.ac.length c3] :: .agg #[.slice qa y1 qc, .slice qb y2 qd, .slice qe y3 qf] :: .agg #[.slice b1 E.ss.length d1, .slice b2 E.ns.length d2, .slice b3 E.ac.length d3] :: undef :: undef :: undef :: undef :: undef :: undef :: undef :: undef :: undef :: undef :: undef :: undef :: undef :: undef :: undef :: undef :: undef :: undef :: undef :: undef :: undef :: undef :: undef :: undef :: undef :: undef :: undef :: undef :: undef :: undef :: undef :: undef :: undef :: undef :: undef :: undef :: undef :: undef :: undef :: undef :: undef :: undef :: undef :: undef :: undef :: undef :: undef :: undef :: undef :: undef :: undef :: undef :: undef :: undef :: undef :: undef :: undef :: undef :: undef :: undef :: undef :: undef :: []), defers := [] } : Act) ∧ GoX.Calm w x ∧ x.heap[w.heap.size]? = some (.cells #[.slice a1 D.ss.length c1, .slice a2 D.ns.length c2, .slice a3 D.ac.length c3] 26) ∧ x.heap[w.heap.size + 1]? = some (.cells #[.slice b1 E.ss.length d1, .slice b2 E.ns.length d2, .slice b3 E.ac.length d3] 26) ∧ (∃ B vs, OwnD B D vs (.slice a1 D.ss.length c1) (.slice a2 D.ns.length c2) (.slice a3 D.ac.length c3) x) ∧ (∃ B vs, OwnD B E vs (.slice b1 E.ss.length d1) (.slice b2 E.ns.length d2) (.slice b3 E.ac.length d3) x)) ?hq ?h
  case h =>
    go_region_with (first
      | (go_at_call_of 4 (Value.agg #[.slice pa x1 pc, .slice pb x2 pd, .slice pe x3 pf]); refine (hfa _ (GoX.Calm.of_below (tC.out.trans (kk.out.mono tC.out.size)))).mono ?_; rintro e z1 ⟨a1, c1, a2, c2, a3, c3, rfl, hP, hB1⟩
         have kk1 : Hid (Below w0.heap.size w0 z1) := kk.out.trans (hB1.mono kk.out.size)
         obtain ⟨⟨u0, u1, u2⟩, -⟩ := box3g (box_below tB.out kk1.out))
      | (go_at_call_of 4 (Value.agg #[.slice qa y1 qc, .slice qb y2 qd, .slice qe y3 qf]); refine (hfb _ (GoX.Calm.of_below (tC.out.trans (kk1.out.mono tC.out.size)))).mono ?_; rintro e z2 ⟨b1, d1, b2, d2, b3, d3, rfl, hO, hB2⟩
         have kk2 : Hid (Below w0.heap.size w0 z2) := kk1.out.trans (hB2.mono kk1.out.size)
         have hP2 : Hid (∃ vs, OwnD w0.drew.heap.size D vs (.slice a1 D.ss.length c1) (.slice a2 D.ns.length c2) (.slice a3 D.ac.length c3) z2) := by obtain ⟨vs, h⟩ := hP.out; exact ⟨vs, h.step hB2⟩
         obtain ⟨⟨v0, v1, v2⟩, r0, r1, r2⟩ := box3g (box_below tA.out kk2.out)
         obtain ⟨⟨v3, v4, v5⟩, r3, r4, r5⟩ := box3g (box_below tB.out kk2.out))
      | fail)
    all_goals
      obtain ⟨z1, z2', z3, ⟨vs, z4⟩, ⟨ws, z5⟩⟩ := both3 (p1 := .slice a1 D.ss.length c1) (p2 := .slice a2 D.ns.length c2) (p3 := .slice a3 D.ac.length c3) (q1 := .slice b1 E.ss.length d1) (q2 := .slice b2 E.ns.length d2) (q3 := .slice b3 E.ac.length d3) (p := #[.slice pa x1 pc, .slice pb x2 pd, .slice pe x3 pf]) (q := #[.slice qa y1 qc, .slice qb y2 qd, .slice qe y3 qf]) (GoX.Calm.of_below (tC.out.trans (kk2.out.mono tC.out.size))) (Nat.le_refl w.heap.size) (box_below tA.out kk2.out) (box_below tB.out kk2.out) hP2.out hO.out
      exact ⟨rfl, a1, c1, a2, c2, a3, c3, b1, d1, b2, d2, b3, d3, rfl, z1, z2', z3, ⟨_, vs, z4⟩, ⟨_, ws, z5⟩⟩
  case hq =>
    rintro _ _ y ⟨rfl, a1, c1, a2, c2, a3, c3, b1, d1, b2, d2, b3, d3, rfl, hC, hXa, hXb, ⟨BP, vp, hP⟩, ⟨BO, vo, hO⟩⟩
    clear hfa hfb hX hY tA tB tC kk g0 g1 g2 g3 g4 g5 hw0 hwX hwY
    have hPh := hidden hP.holds
    have hOh := hidden hO.holds
    clear hP hO
    obtain ⟨⟨g0, g1, g2⟩, -⟩ := box3g hXa
    have hf2 := fewS_c _ _ _ D y hPh.out hD2
    rw [hD1] at hf2
    replace hXa := hidden hXa
    replace hXb := hidden hXb
    replace hC := hidden hC
    obtain ⟨q1, q2, q3, q4⟩ := hD3
    replace hD1 := hidden hD1
    replace hE1 := hidden hE1
    replace hD2 := hidden hD2
    replace hE2 := hidden hE2
    replace hD4 := hidden hD4
    replace hE4 := hidden hE4
    replace q4 := hidden q4
    go_wp2_with fail
    refine hf2.mono ?_
    rintro e y2 ⟨m1, k1, m2, k2, m3, k3, rfl, hM, hB2⟩
    obtain ⟨us, hMo⟩ := hM.out
    have hBa : Below y2.heap.size y2 (y2.alloc (.cells #[.slice m1 D.ss.length k1, .slice m2 D.ns.length k2, .slice m3 D.ac.length k3] 26)) := (Below.refl _ _).alloc (Nat.le_refl _) _
    have hA5 := heap_alloc_new y2 (.cells #[.slice m1 D.ss.length k1, .slice m2 D.ns.length k2, .slice m3 D.ac.length k3] 26)
    have ho3 := ownS_c y.heap.size _ _ _ D us _ (hMo.step hBa) q1 q2 q3 q4.out
    obtain ⟨⟨i0, i1, i2⟩, -⟩ := box3g hA5
    replace hMo := hidden hMo
    replace hBa := hidden hBa
    replace hA5 := hidden hA5
    replace hB2 := hidden hB2
    clear g0 g1 g2 hf2 hM
    go_wp2_with fail
    refine ho3.mono ?_
    rintro e y3 ⟨o1, l1, o2, l2, o3, l3, rfl, hOw, hB3⟩
    have hB23 : Hid (Below y2.heap.size y2 y3) := hBa.out.trans (hB3.mono hBa.out.size)
    have hA53 := hidden (box_below hA5.out hB3)
    clear i0 i1 i2 ho3 hB3 hBa hA5
    obtain ⟨yy, hyy⟩ : ∃ yy, Hid (yy = y3.alloc (.cells #[.slice o1 D.ss.length l1, .slice o2 D.ns.length l2, .slice o3 D.ac.length l3] 26)) := ⟨_, (rfl : _ = _)⟩
    have hB3y : Hid (Below y3.heap.size y3 yy) := by show Below _ _ _; rw [hyy.out]; exact (Below.refl _ _).alloc (Nat.le_refl _) _
    have hT6 : Hid (yy.heap[y3.heap.size]? = some (.cells #[.slice o1 D.ss.length l1, .slice o2 D.ns.length l2, .slice o3 D.ac.length l3] 26)) := by show _ = _; rw [hyy.out]; exact heap_alloc_new _ _
    have hT5 := hidden (box_below hA53.out hB3y.out)
    have hB2y : Hid (Below y2.heap.size y2 yy) := hB23.out.trans (hB3y.out.mono hB23.out.size)
    have hByy : Hid (Below y.heap.size y yy) := hB2.out.trans (hB2y.out.mono hB2.out.size)
    have hOy : Hid (∃ vs, OwnD (y2.heap.size + 1) D vs (.slice o1 D.ss.length l1) (.slice o2 D.ns.length l2) (.slice o3 D.ac.length l3) yy) := by
      obtain ⟨vs, h⟩ := hOw.out
      have h2 := h.step hB3y.out
      rw [show (y2.alloc (.cells #[.slice m1 D.ss.length k1, .slice m2 D.ns.length k2, .slice m3 D.ac.length k3] 26)).heap.size = y2.heap.size + 1 by show (y2.heap.push _).size = _; simp] at h2
      exact ⟨vs, h2⟩
    have hsz3 : Hid (y2.heap.size ≤ y3.heap.size) := hB23.out.size
    have hSp0 := hidden (Spoil.start hMo.out hByy.out hB2y.out y2.heap.size (Nat.le_refl _))
    have hvl := hidden hMo.out.rn.len
    have hvn : Hid (∀ i, i < D.ns.length → (us.getD i RwV.none).n ≤ 1000) := fun i hi => by
      have h := hMo.out.rn.each i hi
      have e : D.ns.getD i [] = D.ns[i] := by simp [List.getD, hi]
      have hl := q4.out (D.ns[i]) (List.getElem_mem hi)
      rw [← e] at hl
      rcases h.2 with ⟨e1, e2⟩ | ⟨g, cap, cur, e1, _⟩
      · simp only [Value.slice.injEq] at e1; omega
      · simp only [Value.slice.injEq] at e1; omega
    clear hMo hOw hB23 hA53 hB3y hB2
    go_wp2_with fail
    rw [← hyy.out]
    go_loopw [7, 8] (fun i _ x => ∃ k : Nat, k ≤ D.ns.length ∧ i = .int .i64 k ∧ Hid (Spoil y yy y2.heap.size (.slice m2 D.ns.length k2) us m3 D.ac.length x)) (fun i _ _ => D.ns.length - (intOf i).toNat)
    case atStart => exact ⟨0, Nat.zero_le _, rfl, hSp0⟩
    case round =>
      clear hSp0
      obtain ⟨k, hk, rfl, hS⟩ := hrel
      obtain ⟨⟨g0, g1, g2⟩, -⟩ := box3g ((hS.out.above _ (Nat.le_refl _)).trans hT5.out)
      by_cases hlt : k < D.ns.length
      · have hlt' : (k : Int) < (D.ns.length : Int) := by omega
        have hk9 : (k : Int) ≤ 1000 := by omega
        go_wp2_with fail
        go_loopw [8] (fun j x => ∃ jn : Nat, jn ≤ (us.getD k RwV.none).n ∧ j = .int .i64 jn ∧ Hid (Spoil y yy y2.heap.size (.slice m2 D.ns.length k2) us m3 D.ac.length x)) (fun j _ => (us.getD k RwV.none).n - (intOf j).toNat)
        case atStart => exact ⟨0, Nat.zero_le _, rfl, hS⟩
        case round =>
          clear hS g0 g1 g2
          obtain ⟨jn, hj, rfl, hS⟩ := hrel
          obtain ⟨⟨g0, g1, g2⟩, -⟩ := box3g ((hS.out.above _ (Nat.le_refl _)).trans hT5.out)
          obtain ⟨a', c', he2, hr⟩ := holdsR_of_owns (R := rowR) hS.out.row
          simp only [Value.slice.injEq] at he2
          obtain ⟨rfl, _, rfl⟩ := he2
          obtain ⟨b5, o5, hm2, hb5, h3⟩ := rec_at hr (k := k) (by rw [hvl.out]; exact hlt)
          have f0 := h3 0 _ rfl
          rw [show o5 + k * rowR.n + 0 = o5 + k by show o5 + k * 1 + 0 = _; omega] at f0
          have hir := hS.out.each k (by rw [hvl.out]; exact hlt)
          have hv9 := hvn.out k hlt
          subst hm2
          replace f0 : wr.cell? ⟨b5, o5 + k, none⟩ = some (.slice (us.getD k RwV.none).a (us.getD k RwV.none).n (us.getD k RwV.none).c) := f0
          clear h3 hr
          by_cases hjl : jn < (us.getD k RwV.none).n
          · rcases hir with h0 | ⟨g, cur, ea, lo, hi', hc, hn⟩
            · omega
            · have hS2 := hidden (hS.out.int hc lo hi' jn (.int .i64 77))
              generalize us.getD k RwV.none = v at *
              obtain ⟨va, vn, vc⟩ := v
              simp only at f0 hjl hv9 ea hn hj ⊢
              subst ea
              have hjc : jn < cur.size := by omega
              have hcell : wr.cell? ⟨g, jn, none⟩ = some cur[jn] := by simp [World.cell?, hc, hjc]
              have hfr : wr.frozen? ⟨g, jn, none⟩ = false := by simp [World.frozen?, hc]
              have hjl' : (jn : Int) < (vn : Int) := by omega
              have hj9 : (jn : Int) ≤ 1000 := by omega
              clear hS hc lo hi' hn
              go_wp2
              go_roundw
              case rel => exact ⟨jn + 1, by omega, by go_num, hS2⟩
              case measure => simp [intOf]; omega
          · clear hir
            generalize us.getD k RwV.none = v at *
            obtain ⟨va, vn, vc⟩ := v
            simp only at f0 hjl hv9 hj
            have hjl' : ¬ (jn : Int) < (vn : Int) := by omega
            go_wp2
            go_roundw
            case rel => exact ⟨k + 1, by omega, by go_num, hS⟩
            case measure => simp [intOf]; omega
      · have hlt' : ¬ (k : Int) < (D.ns.length : Int) := by omega
        have hk9 : (k : Int) ≤ 1000 := by omega
        go_wp2_with fail
        go_loopw [9] (fun i x => ∃ jn : Nat, jn ≤ D.ac.length ∧ i = .int .i64 jn ∧ Hid (Spoil y yy y2.heap.size (.slice m2 D.ns.length k2) us m3 D.ac.length x)) (fun i _ => D.ac.length - (intOf i).toNat)
        case atStart => exact ⟨0, Nat.zero_le _, rfl, hS⟩
        case round =>
          clear hS g0 g1 g2
          obtain ⟨jn, hj, rfl, hS⟩ := hrel
          obtain ⟨⟨g0, g1, g2⟩, -⟩ := box3g ((hS.out.above _ (Nat.le_refl _)).trans hT5.out)
          by_cases hjl : jn < D.ac.length
          · have hjl' : (jn : Int) < (D.ac.length : Int) := by omega
            have hj9 : (jn : Int) ≤ 1000 := by omega
            rcases hS.out.bools with h0 | ⟨g, cur, ea, lo, hi', hc, hn, hb⟩
            · omega
            · obtain ⟨bv, hbv⟩ := hb jn hjl
              have hS2 := hidden (hS.out.drew.bool ea hc lo hi' hn hb jn (!bv))
              have hcell : wr.cell? ⟨g, jn, none⟩ = some (.bool bv) := by simp [World.cell?, hc, hbv]
              have hjc : jn < cur.size := by omega
              have hfr : wr.frozen? ⟨g, jn, none⟩ = false := by simp [World.frozen?, hc]
              subst ea
              replace hb := hidden hb
              clear hS hc lo hi' hn hbv hb
              go_wp2_with fail
              go_region
              all_goals
                go_wp2
                go_roundw
                case rel => exact ⟨jn + 1, by omega, by go_num, hS2⟩
                case measure => simp [intOf]; omega
          · have hjl' : ¬ (jn : Int) < (D.ac.length : Int) := by omega
            have hj9 : (jn : Int) ≤ 1000 := by omega
            have hAx : Hid (wr.heap[w.heap.size]? = some (.cells #[.slice a1 D.ss.length c1, .slice a2 D.ns.length c2, .slice a3 D.ac.length c3] 26)) := box_below hXa.out hS.out.below
            have hBx : Hid (wr.heap[w.heap.size + 1]? = some (.cells #[.slice b1 E.ss.length d1, .slice b2 E.ns.length d2, .slice b3 E.ac.length d3] 26)) := box_below hXb.out hS.out.below
            have hTx : Hid (wr.heap[y3.heap.size]? = some (.cells #[.slice o1 D.ss.length l1, .slice o2 D.ns.length l2, .slice o3 D.ac.length l3] 26)) := (hS.out.above _ hsz3.out).trans hT6.out
            have hPx := hidden (hPh.out.below hS.out.below)
            have hOx := hidden (hOh.out.below hS.out.below)
            obtain ⟨vo, hOo⟩ := hOy.out
            have hRx := hidden (hOo.above (x := wr) (fun g hg => hS.out.above g (by omega))).holds
            have hCx : Hid (GoX.Calm w wr) := hC.out.trans (GoX.Calm.of_below hS.out.below)
            have hFa : ∀ z, Below wr.heap.size wr z → Calls Tryd.prog 4 #[.agg #[.slice a1 D.ss.length c1, .slice a2 D.ns.length c2, .slice a3 D.ac.length c3]] z fun e w' => ∃ a1 c1 a2 c2 a3 c3, e = .returned (.agg #[.slice a1 D.ss.length c1, .slice a2 D.ns.length c2, .slice a3 D.ac.length c3]) ∧ Hid (HoldsD w' (.slice a1 D.ss.length c1) (.slice a2 D.ns.length c2) (.slice a3 D.ac.length c3) D) ∧ Below z.heap.size z w' := fun z h => by
              have h0 := fewS_c _ _ _ D z (hPx.out.below h) hD2.out
              rw [hD1.out] at h0
              exact h0.mono fun e w' ⟨a1, c1, a2, c2, a3, c3, he, ho, hB⟩ => ⟨a1, c1, a2, c2, a3, c3, he, (by obtain ⟨vs, h⟩ := ho.out; exact h.holds), hB⟩
            have hFb : ∀ z, Below wr.heap.size wr z → Calls Tryd.prog 4 #[.agg #[.slice b1 E.ss.length d1, .slice b2 E.ns.length d2, .slice b3 E.ac.length d3]] z fun e w' => ∃ a1 c1 a2 c2 a3 c3, e = .returned (.agg #[.slice a1 E.ss.length c1, .slice a2 E.ns.length c2, .slice a3 E.ac.length c3]) ∧ Hid (HoldsD w' (.slice a1 E.ss.length c1) (.slice a2 E.ns.length c2) (.slice a3 E.ac.length c3) E) ∧ Below z.heap.size z w' := fun z h => by
              have h0 := fewS_c _ _ _ E z (hOx.out.below h) hE2.out
              rw [hE1.out] at h0
              exact h0.mono fun e w' ⟨a1, c1, a2, c2, a3, c3, he, ho, hB⟩ => ⟨a1, c1, a2, c2, a3, c3, he, (by obtain ⟨vs, h⟩ := ho.out; exact h.holds), hB⟩
            have hSm : ∀ z p1 p2 p3 q1 q2 q3, HoldsD z p1 p2 p3 D → HoldsD z q1 q2 q3 E → Calls Tryd.prog 6 #[.agg #[p1, p2, p3], .agg #[q1, q2, q3]] z fun e w' => e = .returned (.bool (dEq D E)) ∧ Below z.heap.size z w' := fun z p1 p2 p3 q1 q2 q3 h1 h2 => dsame_c _ _ _ _ _ _ D E z h1 h2 hD4.out hE4.out
            have hR1 : ∀ z, Below wr.heap.size wr z → Calls Tryd.prog 7 #[.agg #[.slice a1 D.ss.length c1, .slice a2 D.ns.length c2, .slice a3 D.ac.length c3], .agg #[.slice b1 E.ss.length d1, .slice b2 E.ns.length d2, .slice b3 E.ac.length d3]] z fun e w' => e = .returned (.bool (dEq D E)) ∧ Below z.heap.size z w' := fun z h => rdsame_c _ _ _ _ _ _ D E z (hPx.out.below h) (hOx.out.below h) hD4.out hE4.out
            have hR2 : ∀ z, Below wr.heap.size wr z → Calls Tryd.prog 7 #[.agg #[.slice o1 D.ss.length l1, .slice o2 D.ns.length l2, .slice o3 D.ac.length l3], .agg #[.slice a1 D.ss.length c1, .slice a2 D.ns.length c2, .slice a3 D.ac.length c3]] z fun e w' => e = .returned (.bool true) ∧ Below z.heap.size z w' := fun z h => by
              have h0 := rdsame_c _ _ _ _ _ _ D D z (hRx.out.below h) (hPx.out.below h) hD4.out hD4.out
              rw [dEq_self] at h0
              exact h0
            have hLv : ∀ z, Below wr.heap.size wr z → Calls Tryd.prog 8 #[] z fun e w' => e = .returned (.bool true) ∧ GoX.Calm z w' := fun z h => hlv z (hCx.out.trans (GoX.Calm.of_below h))
            generalize dEq D E = q at *
            have kk0 : Hid (Below wr.heap.size wr wr.drew) := (Below.refl _ _).drew
            obtain ⟨⟨A00, A01, A02⟩, -⟩ := box3g hAx.out
            obtain ⟨⟨B00, B01, B02⟩, -⟩ := box3g hBx.out
            obtain ⟨⟨C00, C01, C02⟩, -⟩ := box3g hTx.out
            clear hlv hS hOo hRx hPx hOx hXa hXb hPh hOh hC hT5 hT6 hOy hByy hB2y hvl hvn hyy hsz3 hD1 hE1 hD2 hE2 hD4 hE4 q4
            cases q
            all_goals
              go_wp2_with fail
              go_region_held3 (fun x => x.cell? ⟨w.heap.size, 0, none⟩ = some (.slice a1 D.ss.length c1) ∧ x.cell? ⟨w.heap.size, 1, none⟩ = some (.slice a2 D.ns.length c2) ∧ x.cell? ⟨w.heap.size, 2, none⟩ = some (.slice a3 D.ac.length c3) ∧ x.cell? ⟨w.heap.size + 1, 0, none⟩ = some (.slice b1 E.ss.length d1) ∧ x.cell? ⟨w.heap.size + 1, 1, none⟩ = some (.slice b2 E.ns.length d2) ∧ x.cell? ⟨w.heap.size + 1, 2, none⟩ = some (.slice b3 E.ac.length d3) ∧ x.cell? ⟨y3.heap.size, 0, none⟩ = some (.slice o1 D.ss.length l1) ∧ x.cell? ⟨y3.heap.size, 1, none⟩ = some (.slice o2 D.ns.length l2) ∧ x.cell? ⟨y3.heap.size, 2, none⟩ = some (.slice o3 D.ac.length l3)) (go_keep) (first
            | (go_at_call_of 4 (Value.agg #[.slice a1 D.ss.length c1, .slice a2 D.ns.length c2, .slice a3 D.ac.length c3]); refine (hFa _ kk0.out).mono ?_; rintro e z1 ⟨p1, e1, p2, e2, p3, e3, rfl, hP1, hD1⟩
               have kk1 : Hid (Below wr.heap.size wr z1) := kk0.out.trans (hD1.mono kk0.out.size)
               obtain ⟨⟨A10, A11, A12⟩, -⟩ := box3g (box_below hAx.out kk1.out)
               obtain ⟨⟨B10, B11, B12⟩, -⟩ := box3g (box_below hBx.out kk1.out)
               obtain ⟨⟨C10, C11, C12⟩, -⟩ := box3g (box_below hTx.out kk1.out))
            | (go_at_call_of 4 (Value.agg #[.slice b1 E.ss.length d1, .slice b2 E.ns.length d2, .slice b3 E.ac.length d3]); refine (hFb _ kk1.out).mono ?_; rintro e z2 ⟨r1, f1, r2, f2, r3, f3, rfl, hQ2, hD2⟩
               have kk2 : Hid (Below wr.heap.size wr z2) := kk1.out.trans (hD2.mono kk1.out.size)
               obtain ⟨⟨A20, A21, A22⟩, -⟩ := box3g (box_below hAx.out kk2.out)
               obtain ⟨⟨B20, B21, B22⟩, -⟩ := box3g (box_below hBx.out kk2.out)
               obtain ⟨⟨C20, C21, C22⟩, -⟩ := box3g (box_below hTx.out kk2.out))
            | (go_at_call 6; refine (hSm _ _ _ _ _ _ _ (hP1.out.below hD2) hQ2.out).mono ?_; rintro e z3 ⟨rfl, hD3⟩
               have kk3 : Hid (Below wr.heap.size wr z3) := kk2.out.trans (hD3.mono kk2.out.size)
               obtain ⟨⟨A30, A31, A32⟩, -⟩ := box3g (box_below hAx.out kk3.out)
               obtain ⟨⟨B30, B31, B32⟩, -⟩ := box3g (box_below hBx.out kk3.out)
               obtain ⟨⟨C30, C31, C32⟩, -⟩ := box3g (box_below hTx.out kk3.out))
            | (go_at_call_of 7 (Value.agg #[.slice o1 D.ss.length l1, .slice o2 D.ns.length l2, .slice o3 D.ac.length l3]); refine (hR2 _ kk4.out).mono ?_; rintro e z5 ⟨rfl, hD5⟩
               have kk5 : Hid (Below wr.heap.size wr z5) := kk4.out.trans (hD5.mono kk4.out.size)
               obtain ⟨⟨A50, A51, A52⟩, -⟩ := box3g (box_below hAx.out kk5.out)
               obtain ⟨⟨B50, B51, B52⟩, -⟩ := box3g (box_below hBx.out kk5.out)
               obtain ⟨⟨C50, C51, C52⟩, -⟩ := box3g (box_below hTx.out kk5.out))
            | (go_at_call_of 7 (Value.agg #[.slice a1 D.ss.length c1, .slice a2 D.ns.length c2, .slice a3 D.ac.length c3]); refine (hR1 _ kk3.out).mono ?_; rintro e z4 ⟨rfl, hD4⟩
               have kk4 : Hid (Below wr.heap.size wr z4) := kk3.out.trans (hD4.mono kk3.out.size)
               obtain ⟨⟨A40, A41, A42⟩, -⟩ := box3g (box_below hAx.out kk4.out)
               obtain ⟨⟨B40, B41, B42⟩, -⟩ := box3g (box_below hBx.out kk4.out)
               obtain ⟨⟨C40, C41, C42⟩, -⟩ := box3g (box_below hTx.out kk4.out))
            | (go_at_call 8; refine (hLv _ kk5.out).mono ?_; rintro e z6 ⟨rfl, hD6⟩
               obtain ⟨⟨A60, A61, A62⟩, -⟩ := box3g (box_calmD (box_below hAx.out kk5.out) hD6)
               obtain ⟨⟨B60, B61, B62⟩, -⟩ := box3g (box_calmD (box_below hBx.out kk5.out) hD6)
               obtain ⟨⟨C60, C61, C62⟩, -⟩ := box3g (box_calmD (box_below hTx.out kk5.out) hD6))
            | fail)
              all_goals
                have hfin : Hid (GoX.Calm w z6) := hCx.out.trans ((GoX.Calm.of_below kk5.out).trans hD6)
                go_wp2
                go_ret
                exact ⟨rfl, hfin.out⟩
end Go.Proofs.YtfdbedeidcaonabDoor
