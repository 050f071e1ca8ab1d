/-
  AN AUTOMATON IN MEMORY OF ITS OWN: dfa.Own, by contract.
-/
import Derived.Test.YtfdbedeidcaonabDoorDClone
import Derived.Test.YtfdbedeidcaonabDoorDRel2
namespace Go.Proofs.YtfdbedeidcaonabDoor
open Go.ChangeShapes Go.WideShapes Go.ChangeAt Go.RowKit

theorem OwnD.step {B : Nat} {d : Df} {vs : List RwV} {sv nv av : Value} {x z : World} (h : OwnD B d vs sv nv av x) (hB : Below x.heap.size x z) : OwnD B d vs sv nv av z := ⟨owns_keep h.rs hB, h.rn.step hB, owns_keep h.ra hB⟩
/-- The boxes of Own, and the rows copied so far. -/
structure O1 (sv nv av us un ua : Value) (d : Df) (vs : List RwV) (k : Nat) (b : Nat) (w x : World) : Prop where
  below : Below w.heap.size w x
  b1 : x.heap[w.heap.size]? = some (.cells #[sv, nv, av] 26)
  b2 : x.heap[w.heap.size + 1]? = some (.cells #[.slice none 0 0, .slice none 0 0, .slice none 0 0] 26)
  b3 : x.heap[b]? = some (.cells #[us, un, ua] 26)
  lb : w.heap.size + 1 < b
  rs : x.ownsRow w.heap.size 33 2 us d.ss.length (symR.flat d.ss)
  rn : RowsAt w.heap.size un vs (d.ns.take k) x
  ra : x.ownsRow w.heap.size 4 1 ua d.ac.length (boolR.flat d.ac)
section
variable {sv nv av us un ua v' : Value} {d : Df} {vs : List RwV} {k b : Nat} {w x z : World}
theorem O1.step (h : O1 sv nv av us un ua d vs k b w x) (hB : Below x.heap.size x z) : O1 sv nv av us un ua d vs k b w z :=
  ⟨h.below.trans (hB.mono h.below.size), box_below h.b1 hB, box_below h.b2 hB, box_below h.b3 hB, h.lb, owns_keep h.rs hB, h.rn.step hB, owns_keep h.ra hB⟩
theorem O1.rows {pa : Option Addr} {pn pc : Nat} {l : List Int} (h : O1 sv nv av us un ua d vs k b w x) (hl : d.ns.take (k + 1) = d.ns.take k ++ [l]) (hr : x.ownsRow w.heap.size 3 1 (.slice pa pn pc) l.length (intR.flat l))
    (hown : z.ownsRow w.heap.size 28 1 v' (vs.length + 1) (rowR.flat vs ++ [.slice pa pn pc])) (hg : x.grownBy z un.ownBlock) :
    O1 sv nv av us v' ua d (vs ++ [RwV.mk pa pn pc]) (k + 1) b w (z.setCell ⟨b, 1, none⟩ v') := by
  have hb1 := box_grown h.b1 h.rn.row (by decide) hg
  have hb2 := box_grown h.b2 h.rn.row (by decide) hg
  have hb3 := box_grown h.b3 h.rn.row (by decide) hg
  have hlb := h.lb
  refine ⟨(h.below.grown hg h.below.size (fun j hj => (h.rn.row.lt j hj).1)).setCell (p := ⟨b, 1, none⟩) (show w.heap.size ≤ b by omega) _, set_oth hb1 (by omega) _ _, set_oth hb2 (by omega) _ _, by simpa using set_heap hb3 1 v', h.lb, own_set (row_grown h.rs h.rn.row (by decide) hg) hb3 (by decide) _ _, ?_, own_set (row_grown h.ra h.rn.row (by decide) hg) hb3 (by decide) _ _⟩
  rw [hl]
  exact (h.rn.next hr hown hg).set hb3 _ _
end
theorem twoDO (w : World) (a b c : Value) : ((w.alloc (.cells #[a, b, c] 26)).alloc (.cells #[.slice none 0 0, .slice none 0 0, .slice none 0 0] 26)).heap[w.heap.size]? = some (.cells #[a, b, c] 26) ∧
    ((w.alloc (.cells #[a, b, c] 26)).alloc (.cells #[.slice none 0 0, .slice none 0 0, .slice none 0 0] 26)).heap[w.heap.size + 1]? = some (.cells #[.slice none 0 0, .slice none 0 0, .slice none 0 0] 26) ∧
    Below w.heap.size w ((w.alloc (.cells #[a, b, c] 26)).alloc (.cells #[.slice none 0 0, .slice none 0 0, .slice none 0 0] 26)) := by
  refine ⟨?_, ?_, ((Below.refl _ _).alloc (Nat.le_refl _) _).alloc (by show _ ≤ (w.heap.push _).size; simp) _⟩
  · show ((w.heap.push _).push _)[_]? = _
    rw [Array.getElem?_push, if_neg (by simp), Array.getElem?_push, if_pos rfl]
  · show ((w.heap.push _).push _)[_]? = _
    rw [Array.getElem?_push, if_pos (by simp)]
theorem o1_set {sv nv av us ua : Value} {d : Df} {b : Nat} {w z : World} (h : Below w.heap.size w z) (h1 : z.heap[w.heap.size]? = some (.cells #[sv, nv, av] 26)) (h2 : z.heap[w.heap.size + 1]? = some (.cells #[.slice none 0 0, .slice none 0 0, .slice none 0 0] 26))
    (h3 : z.heap[b]? = some (.cells #[.slice none 0 0, .slice none 0 0, .slice none 0 0] 26)) (lb : w.heap.size + 1 < b) (rs : z.ownsRow w.heap.size 33 2 us d.ss.length (symR.flat d.ss)) (ra : z.ownsRow w.heap.size 4 1 ua d.ac.length (boolR.flat d.ac)) :
    O1 sv nv av us (.slice none 0 0) ua d [] 0 b w (((z.setCell ⟨b, 0, none⟩ us).setCell ⟨b, 1, none⟩ (.slice none 0 0)).setCell ⟨b, 2, none⟩ ua) := by
  have s0 := set_heap h3 0 us
  have s1 := set_heap s0 1 (.slice none 0 0)
  have s2 := set_heap s1 2 ua
  have lb0 : w.heap.size ≤ b := by omega
  exact ⟨((h.setCell (p := ⟨b, 0, none⟩) lb0 _).setCell (p := ⟨b, 1, none⟩) lb0 _).setCell (p := ⟨b, 2, none⟩) lb0 _, set_oth (set_oth (set_oth h1 (by omega) _ _) (by omega) _ _) (by omega) _ _, set_oth (set_oth (set_oth h2 (by omega) _ _) (by omega) _ _) (by omega) _ _, s2, lb,
    own_set (own_set (own_set rs h3 (by decide) 0 _) s0 (by decide) 1 _) s1 (by decide) 2 _, ⟨World.ownsRow_nil .., rfl, fun i hi => by simp at hi⟩, own_set (own_set (own_set ra h3 (by decide) 0 _) s0 (by decide) 1 _) s1 (by decide) 2 _⟩
theorem o1_alloc {sv nv av us ua : Value} {d : Df} {w z : World} (h : Below w.heap.size w z) (h1 : z.heap[w.heap.size]? = some (.cells #[sv, nv, av] 26)) (h2 : z.heap[w.heap.size + 1]? = some (.cells #[.slice none 0 0, .slice none 0 0, .slice none 0 0] 26))
    (lb : w.heap.size + 1 < z.heap.size) (rs : z.ownsRow w.heap.size 33 2 us d.ss.length (symR.flat d.ss)) (ra : z.ownsRow w.heap.size 4 1 ua d.ac.length (boolR.flat d.ac)) :
    O1 sv nv av us (.slice none 0 0) ua d [] 0 z.heap.size w (z.alloc (.cells #[us, .slice none 0 0, ua] 26)) := by
  have hB : Below z.heap.size z (z.alloc (.cells #[us, .slice none 0 0, ua] 26)) := (Below.refl _ _).alloc (Nat.le_refl _) _
  exact ⟨h.trans (hB.mono h.size), box_below h1 hB, box_below h2 hB, heap_alloc_new _ _, lb, owns_keep rs hB, ⟨World.ownsRow_nil .., rfl, fun i hi => by simp at hi⟩, owns_keep ra hB⟩
theorem owns_slr {w : World} {B : Nat} {e : TypeId} {v : Value} {α : Type} {R : Rec α} {ps : List α} (h : w.ownsRow B e R.n v ps.length (R.flat ps)) : ∃ a c, v = .slice a ps.length c ∧ (a = none → c = 0) ∧ RowAt w a (R.flat ps) := by
  obtain ⟨a, c, h1, _, h2, _, h3⟩ := slR_of_owns h
  exact ⟨a, c, h1, h2, h3⟩
set_option maxHeartbeats 6400000 in
set_option maxRecDepth 100000 in
theorem down_c (B : Nat) (sv nv av : Value) (d : Df) (vs : List RwV) (w : World) (hv : OwnD B d vs sv nv av w) (h1 : d.ss.length ≤ 1000) (h2 : d.ns.length ≤ 1000) (h3 : d.ac.length ≤ 1000) (h4 : ∀ l ∈ d.ns, l.length ≤ 1000) :
    Calls Tryd.prog 5 #[.agg #[sv, nv, av]] w fun e w' => ∃ us un ua, e = .returned (.agg #[us, un, ua]) ∧ (∃ ws, OwnD w.heap.size d ws us un ua w') ∧ Below w.heap.size w w' := by
  obtain ⟨ir, hir, hr0, hr1, hr2⟩ := info_parts infoR
  obtain ⟨sa, sc, rfl, hs0, hs⟩ := owns_slr (R := symR) hv.rs
  obtain ⟨ba, bc, rfl, hb0, hb⟩ := owns_slr (R := boolR) hv.ra
  have hN := hidden hv.rn.holds
  obtain ⟨na, nc, rfl⟩ := hv.rn.holds.slice
  have hNc : Hid (∀ k, k < d.ns.length → ∀ b5 o5 pa pn pc, na = some ⟨b5, o5, none⟩ → w.cell? ⟨b5, o5 + k, none⟩ = some (.slice pa pn pc) → pa = none → pc = 0) := fun k hk b5 o5 pa pn pc he hc hp => by
    obtain ⟨a', c', he2, hr⟩ := holdsR_of_owns (R := rowR) hv.rn.row
    simp only [Value.slice.injEq] at he2
    obtain ⟨rfl, _, rfl⟩ := he2
    obtain ⟨b, off, he3, _, h3⟩ := rec_at hr (k := k) (by rw [hv.rn.len]; exact hk)
    rw [he] at he3
    simp only [Option.some.injEq, Addr.mk.injEq] at he3
    obtain ⟨rfl, rfl, _⟩ := he3
    have h4 := h3 0 _ rfl
    rw [show o5 + k * rowR.n + 0 = o5 + k by show o5 + k * 1 + 0 = _; omega, hc] at h4
    simp only [Option.some.injEq, Value.slice.injEq] at h4
    obtain ⟨h5, _, h6⟩ := h4
    obtain ⟨a, c, h7, h8, _⟩ := owns_slr (R := intR) (hv.rn.each k hk)
    simp only [Value.slice.injEq] at h7
    obtain ⟨h9, _, h10⟩ := h7
    exact h6.trans (h10.trans (h8 (h9.symm.trans (h5.symm.trans hp))))
  obtain ⟨tA, tB, tC⟩ := twoDO w (.slice sa d.ss.length sc) (.slice na d.ns.length nc) (.slice ba d.ac.length bc)
  obtain ⟨w0, hw0⟩ : ∃ w0, Hid (w0 = (w.alloc (.cells #[.slice sa d.ss.length sc, .slice na d.ns.length nc, .slice ba d.ac.length bc] 26)).alloc (.cells #[.slice none 0 0, .slice none 0 0, .slice none 0 0] 26)) := ⟨_, (rfl : _ = _)⟩
  rw [← hw0.out] at tA tB tC
  have hsz : Hid (w0.heap.size = w.heap.size + 2) := by show _ = _; rw [hw0.out]; show ((w.heap.push _).push _).size = _; simp
  have hs' := hs.below tC
  have hb' := hb.below tC
  have hcs := fun x (hx : Below w0.heap.size w0 x) => symclone_c sa sc d.ss x (hs'.below hx) h1 hs0
  have hcb := fun x (hx : Below w0.heap.size w0 x) => boolclone_c ba bc d.ac x (hb'.below hx) h3 hb0
  replace hs0 := hidden hs0
  replace hb0 := hidden hb0
  replace hs := hidden hs
  replace hb := hidden hb
  replace hs' := hidden hs'
  replace hb' := hidden hb'
  replace h4 := hidden h4
  obtain ⟨⟨g0, g1, g2⟩, -⟩ := box3g tA
  replace tA := hidden tA
  replace tB := hidden tB
  replace tC := hidden tC
  have kk : Hid (Below w0.heap.size w0 w0.drew) := (Below.refl _ _).drew
  replace hv := hidden hv
  have n0 : ¬ w0.heap.size = w.heap.size := by have := hsz.out; omega
  go_enter Tryd.func5, Tryd.ntmps5
  go_wp2_with fail
  rw [← hw0.out]
  go_region_held3 (fun x => x.cell? ⟨w.heap.size, 0, none⟩ = some (.slice sa d.ss.length sc) ∧ x.cell? ⟨w.heap.size, 2, none⟩ = some (.slice ba d.ac.length bc)) (go_keep) (first
    | (go_at_call 11; refine (hcs _ (by first | exact kk.out | exact kk.out.alloc kk.out.size _)).mono ?_; rintro e z1 ⟨a1, c1, rfl, hw1, hB1⟩
       have kk1 : Hid (Below w0.heap.size w0 z1) := by first | exact kk.out.trans (hB1.mono kk.out.size) | exact (kk.out.alloc kk.out.size _).trans (hB1.mono (kk.out.alloc kk.out.size _).size)
       obtain ⟨⟨y0, y1, y2⟩, -⟩ := box3g (box_below tA.out kk1.out)
       have n1 : ¬ z1.heap.size = w.heap.size := by have := kk1.out.size; have := hsz.out; omega
       first
         | (have bx1 : z1.heap[w0.heap.size]? = some (.cells #[.slice none 0 0, .slice none 0 0, .slice none 0 0] 26) := box_below (heap_alloc_new w0.drew (.cells #[.slice none 0 0, .slice none 0 0, .slice none 0 0] 26)) hB1
            obtain ⟨⟨p0, p1, p2⟩, r0, r1, r2⟩ := box3g bx1)
         | skip)
    | (go_at_call 12; refine (hcb _ (by first | exact kk1.out | exact kk1.out.alloc kk1.out.size _)).mono ?_; rintro e z2 ⟨a2, c2, rfl, hw2, hB2⟩
       have kk2 : Hid (Below w0.heap.size w0 z2) := by first | exact kk1.out.trans (hB2.mono kk1.out.size) | exact (kk1.out.alloc kk1.out.size _).trans (hB2.mono (kk1.out.alloc kk1.out.size _).size)
       obtain ⟨⟨u0, u1, u2⟩, -⟩ := box3g (box_below tA.out kk2.out)
       have n2 : ¬ z2.heap.size = w.heap.size := by have := kk2.out.size; have := hsz.out; omega
       first
         | (have bx2 : z2.heap[w0.heap.size]? = some (.cells #[.slice none 0 0, .slice none 0 0, .slice none 0 0] 26) := box_below bx1 hB2
            obtain ⟨⟨v0, v1, v2⟩, s0, s1, s2⟩ := box3g bx2)
         | (have bx2 : z2.heap[z1.heap.size]? = some (.cells #[.slice none 0 0, .slice none 0 0, .slice none 0 0] 26) := box_below (heap_alloc_new z1 (.cells #[.slice none 0 0, .slice none 0 0, .slice none 0 0] 26)) hB2
            obtain ⟨⟨v0, v1, v2⟩, s0, s1, s2⟩ := box3g bx2)
         | skip))
  · have hO := o1_alloc (tC.out.trans (kk2.out.mono tC.out.size)) (box_below tA.out kk2.out) (box_below tB.out kk2.out) (by have := kk2.out.size; have := hsz.out; omega) (owns_keep (own_base hw1 (show w.heap.size ≤ w0.heap.size by have := hsz.out; omega)) hB2) (own_base hw2 (show w.heap.size ≤ z1.heap.size by have := kk1.out.size; have := hsz.out; omega))
    obtain ⟨X, hX⟩ : ∃ X, Hid (X = z2.alloc (.cells #[.slice a1 d.ss.length c1, .slice none 0 0, .slice a2 d.ac.length c2] 26)) := ⟨_, (rfl : _ = _)⟩
    rw [← hX.out] at hO ⊢
    obtain ⟨bb, hbb⟩ : ∃ bb, Hid (bb = z2.heap.size) := ⟨_, (rfl : _ = _)⟩
    rw [← hbb.out] at hO ⊢
    replace hO := hidden hO
    have hnl := h2
    try clear hw1 hw2 hB1 hB2
    try clear bx1
    try clear bx2 v0 v1 v2 s0 s1 s2
    try clear p0 p1 p2 r0 r1 r2
    clear kk kk1 kk2 hcs hcb g0 g1 g2 y0 y1 y2 u0 u1 u2 n0 n1 n2 tA tB tC hsz hs' hb' hv
    obtain ⟨⟨g0, g1, g2⟩, -⟩ := box3g hO.out.b1
    go_wp2_with fail
    go_loopw [16] (fun i x => ∃ (k : Nat) (un : Value) (ws : List RwV), k ≤ d.ns.length ∧ i = .int .i64 k ∧ Hid (O1 (.slice sa d.ss.length sc) (.slice na d.ns.length nc) (.slice ba d.ac.length bc) (.slice a1 d.ss.length c1) un (.slice a2 d.ac.length c2) d ws k bb w x)) (fun i _ => d.ns.length - (intOf i).toNat)
    case atStart => exact ⟨0, _, [], Nat.zero_le _, rfl, hO⟩
    case round =>
      clear hO g0 g1 g2
      obtain ⟨k, un, ws, hk, rfl, hl⟩ := hrel
      have hvl : Hid (ws.length = k) := by show _ = _; rw [hl.out.rn.len, List.length_take]; omega
      obtain ⟨na2, nc2, rfl⟩ := shape_k hl.out.rn.row hvl.out
      by_cases hlt : k < d.ns.length
      · have hlt' : (k : Int) < (d.ns.length : Int) := by omega
        have hk9 : (k : Int) ≤ 1000 := by omega
        obtain ⟨b5, o5, pa, pn, pc, hna, hb5, e0, hrow⟩ := rows_at hN.out hlt
        have hcn : pa = none → pc = 0 := hNc.out k hlt b5 o5 pa pn pc hna e0
        subst hna
        have htm := hidden (take_snocR d.ns [] k hlt)
        have hpl : (d.ns.getD k []).length ≤ 1000 := by
          have e : d.ns.getD k [] = d.ns[k] := by simp [List.getD, hlt]
          rw [e]
          exact h4.out _ (List.getElem_mem hlt)
        generalize d.ns.getD k [] = q at *
        have f0 := (hl.out.below.cell (p := ⟨b5, o5 + k, none⟩) (by exact hb5)).trans e0
        obtain ⟨pa', pc', heq, hprow⟩ := hrow
        simp only [Value.slice.injEq] at heq
        obtain ⟨rfl, rfl, rfl⟩ := heq
        have hfw := fun x (hx : Below w.heap.size w x) => intclone_c pa pc q x (hprow.below hx) hpl hcn
        have hlD := hidden (hl.out.step (Below.refl _ _).drew)
        have hb3 : Hid (wr.heap[bb]? = some (.cells #[.slice a1 d.ss.length c1, .slice na2 k nc2, .slice a2 d.ac.length c2] 26)) := hl.out.b3
        obtain ⟨⟨x0, x1, x2⟩, -⟩ := box3g hb3.out
        have hcl := hfw wr.drew hlD.out.below
        replace hpl := hidden hpl
        replace hprow := hidden hprow
        replace hcn := hidden hcn
        clear e0 hfw
        go_wp2_with fail
        go_region_law (first
          | (refine step_wp (by rfl) (wp_call (vs := #[.slice pa q.length pc]) (by rfl) (fun _ _ => rfl) (by simp only [List.map_toArray, List.map_cons, List.map_nil] <;> rfl) (hcl.mono ?_)); rintro e z ⟨va, vc, rfl, hown5, hB5⟩; refine ⟨_, rfl, ?_⟩
             have hlZ := hidden (hlD.out.step hB5)
             have hr5 := hidden (own_base hown5 hl.out.below.size)
             have hlA := hidden (hlZ.out.step ((Below.refl _ _).alloc (Nat.le_refl _) (.cells #[.slice va q.length vc] 28)))
             have hb4 : z.heap[bb]? = some (.cells #[.slice a1 d.ss.length c1, .slice na2 k nc2, .slice a2 d.ac.length c2] 26) := hlZ.out.b3
             obtain ⟨⟨y0, y1, y2⟩, -⟩ := box3g hb4
             have z2 : ∀ o, (z.alloc o).cell? ⟨bb, 1, none⟩ = some (.slice na2 k nc2) := fun o => (World.cell?_alloc_lt _ _ _ (World.block_lt_of_cell? _ _ y1)).trans y1
             have z1 := World.new_ne _ _ y1)
          | (refine step_append_own (by rfl) _ _ _ (by rfl) w.heap.size 28 ir _ 1 24 Tryd.underlying23 hir hr0 hr1 hr2 rfl (by decide) (.slice na2 k nc2) _ _ (by rfl) hlA.out.rn.row ⟨z.heap.size, 0, none⟩ 1 1 [.slice va q.length vc] (by rfl) (by rfl) (cells_new z [_] _) (by simp [Value.oneCell']) (by have := hvl.out; unfold maxLen; omega) (by have := hvl.out; omega) (by have := hlA.out.below.size; simp at *; omega) ?_; intro v' w6 hown6 hgrow6; obtain ⟨a9, c9, rfl⟩ := shape_k hown6 (show _ = k + 1 by rw [hvl.out])
             have hb7 := box_grown hlA.out.b3 hlA.out.rn.row (by decide) hgrow6
             obtain ⟨⟨r0, r1, r2⟩, q0, q1, q2⟩ := box3g hb7)
          | fail)
        all_goals
          have hl6 := hidden (hlA.out.rows (l := q) htm.out (owns_keep hr5.out ((Below.refl z.heap.size z).alloc (Nat.le_refl _) (.cells #[.slice va q.length vc] 28))) hown6 hgrow6)
          clear hown6 hgrow6 hb7 r0 r1 r2 q0 q1 q2 x0 x1 x2 y0 y1 y2 hb3 hb4 z1 z2 hlA hlZ hlD hl f0 htm hvl hcl hr5 hown5 hB5
          go_wp2
          go_roundw
          case rel => exact ⟨k + 1, _, _, by omega, by go_num, hl6⟩
          case measure => simp [intOf]; omega
      · have hkl : Hid (k = d.ns.length) := by show _ = _; omega
        have hlt' : ¬ (k : Int) < (d.ns.length : Int) := by omega
        have s0 := set_heap hl.out.b2 0 (.slice a1 d.ss.length c1)
        have s1 := set_heap s0 1 (.slice na2 k nc2)
        have hrs := hidden (set_heap s1 2 (.slice a2 d.ac.length c2))
        have hO : Hid (OwnD w.heap.size d ws (.slice a1 d.ss.length c1) (.slice na2 k nc2) (.slice a2 d.ac.length c2) (((wr.setCell ⟨w.heap.size + 1, 0, none⟩ (.slice a1 d.ss.length c1)).setCell ⟨w.heap.size + 1, 1, none⟩ (.slice na2 k nc2)).setCell ⟨w.heap.size + 1, 2, none⟩ (.slice a2 d.ac.length c2))) := by
          refine ⟨own_set (own_set (own_set hl.out.rs hl.out.b2 (by decide) 0 _) s0 (by decide) 1 _) s1 (by decide) 2 _, ?_, own_set (own_set (own_set hl.out.ra hl.out.b2 (by decide) 0 _) s0 (by decide) 1 _) s1 (by decide) 2 _⟩
          have h := ((hl.out.rn.set hl.out.b2 0 (.slice a1 d.ss.length c1)).set s0 1 (.slice na2 k nc2)).set s1 2 (.slice a2 d.ac.length c2)
          have e9 : d.ns.take k = d.ns := by rw [hkl.out]; exact List.take_length
          rw [e9] at h
          exact h
        have hBF := hidden (((hl.out.below.setCell (p := ⟨w.heap.size + 1, 0, none⟩) (show w.heap.size ≤ w.heap.size + 1 by omega) (.slice a1 d.ss.length c1)).setCell (p := ⟨w.heap.size + 1, 1, none⟩) (show w.heap.size ≤ w.heap.size + 1 by omega) (.slice na2 k nc2)).setCell (p := ⟨w.heap.size + 1, 2, none⟩) (show w.heap.size ≤ w.heap.size + 1 by omega) (.slice a2 d.ac.length c2))
        obtain ⟨⟨o0, o1, o2⟩, -⟩ := box3g hl.out.b3
        obtain ⟨⟨t0, t1, t2⟩, y0, y1, y2⟩ := box3g hl.out.b2
        clear hl s0 s1 hvl
        go_wp2
        exact bodyPost_ret (results_cell_row rfl _ _ (w.heap.size + 1) _ _ _ _ rfl hrs.out Tryd.underlying26 rfl (by kernel_rfl)) rfl ⟨.slice a1 d.ss.length c1, .slice na2 k nc2, .slice a2 d.ac.length c2, rfl, ⟨ws, hO.out⟩, hBF.out⟩
  · have hO := o1_set (tC.out.trans (kk2.out.mono tC.out.size)) (box_below tA.out kk2.out) (box_below tB.out kk2.out) bx2 (by have := kk1.out.size; have := hsz.out; omega) (owns_keep (owns_keep (own_base hw1 (show w.heap.size ≤ w0.heap.size by have := hsz.out; omega)) ((Below.refl _ _).alloc (Nat.le_refl _) _)) hB2) (own_base hw2 (show w.heap.size ≤ (z1.alloc _).heap.size by have := kk1.out.size; have := hsz.out; show w.heap.size ≤ (z1.heap.push _).size; simp; omega))
    obtain ⟨X, hX⟩ : ∃ X, Hid (X = ((z2.setCell ⟨z1.heap.size, 0, none⟩ (.slice a1 d.ss.length c1)).setCell ⟨z1.heap.size, 1, none⟩ (.slice none 0 0)).setCell ⟨z1.heap.size, 2, none⟩ (.slice a2 d.ac.length c2)) := ⟨_, (rfl : _ = _)⟩
    rw [← hX.out] at hO ⊢
    obtain ⟨bb, hbb⟩ : ∃ bb, Hid (bb = z1.heap.size) := ⟨_, (rfl : _ = _)⟩
    rw [← hbb.out] at hO ⊢
    replace hO := hidden hO
    have hnl := h2
    try clear hw1 hw2 hB1 hB2
    try clear bx1
    try clear bx2 v0 v1 v2 s0 s1 s2
    try clear p0 p1 p2 r0 r1 r2
    clear kk kk1 kk2 hcs hcb g0 g1 g2 y0 y1 y2 u0 u1 u2 n0 n1 n2 tA tB tC hsz hs' hb' hv
    obtain ⟨⟨g0, g1, g2⟩, -⟩ := box3g hO.out.b1
    go_wp2_with fail
    go_loopw [16] (fun i x => ∃ (k : Nat) (un : Value) (ws : List RwV), k ≤ d.ns.length ∧ i = .int .i64 k ∧ Hid (O1 (.slice sa d.ss.length sc) (.slice na d.ns.length nc) (.slice ba d.ac.length bc) (.slice a1 d.ss.length c1) un (.slice a2 d.ac.length c2) d ws k bb w x)) (fun i _ => d.ns.length - (intOf i).toNat)
    case atStart => exact ⟨0, _, [], Nat.zero_le _, rfl, hO⟩
    case round =>
      clear hO g0 g1 g2
      obtain ⟨k, un, ws, hk, rfl, hl⟩ := hrel
      have hvl : Hid (ws.length = k) := by show _ = _; rw [hl.out.rn.len, List.length_take]; omega
      obtain ⟨na2, nc2, rfl⟩ := shape_k hl.out.rn.row hvl.out
      by_cases hlt : k < d.ns.length
      · have hlt' : (k : Int) < (d.ns.length : Int) := by omega
        have hk9 : (k : Int) ≤ 1000 := by omega
        obtain ⟨b5, o5, pa, pn, pc, hna, hb5, e0, hrow⟩ := rows_at hN.out hlt
        have hcn : pa = none → pc = 0 := hNc.out k hlt b5 o5 pa pn pc hna e0
        subst hna
        have htm := hidden (take_snocR d.ns [] k hlt)
        have hpl : (d.ns.getD k []).length ≤ 1000 := by
          have e : d.ns.getD k [] = d.ns[k] := by simp [List.getD, hlt]
          rw [e]
          exact h4.out _ (List.getElem_mem hlt)
        generalize d.ns.getD k [] = q at *
        have f0 := (hl.out.below.cell (p := ⟨b5, o5 + k, none⟩) (by exact hb5)).trans e0
        obtain ⟨pa', pc', heq, hprow⟩ := hrow
        simp only [Value.slice.injEq] at heq
        obtain ⟨rfl, rfl, rfl⟩ := heq
        have hfw := fun x (hx : Below w.heap.size w x) => intclone_c pa pc q x (hprow.below hx) hpl hcn
        have hlD := hidden (hl.out.step (Below.refl _ _).drew)
        have hb3 : Hid (wr.heap[bb]? = some (.cells #[.slice a1 d.ss.length c1, .slice na2 k nc2, .slice a2 d.ac.length c2] 26)) := hl.out.b3
        obtain ⟨⟨x0, x1, x2⟩, -⟩ := box3g hb3.out
        have hcl := hfw wr.drew hlD.out.below
        replace hpl := hidden hpl
        replace hprow := hidden hprow
        replace hcn := hidden hcn
        clear e0 hfw
        go_wp2_with fail
        go_region_law (first
          | (refine step_wp (by rfl) (wp_call (vs := #[.slice pa q.length pc]) (by rfl) (fun _ _ => rfl) (by simp only [List.map_toArray, List.map_cons, List.map_nil] <;> rfl) (hcl.mono ?_)); rintro e z ⟨va, vc, rfl, hown5, hB5⟩; refine ⟨_, rfl, ?_⟩
             have hlZ := hidden (hlD.out.step hB5)
             have hr5 := hidden (own_base hown5 hl.out.below.size)
             have hlA := hidden (hlZ.out.step ((Below.refl _ _).alloc (Nat.le_refl _) (.cells #[.slice va q.length vc] 28)))
             have hb4 : z.heap[bb]? = some (.cells #[.slice a1 d.ss.length c1, .slice na2 k nc2, .slice a2 d.ac.length c2] 26) := hlZ.out.b3
             obtain ⟨⟨y0, y1, y2⟩, -⟩ := box3g hb4
             have z2 : ∀ o, (z.alloc o).cell? ⟨bb, 1, none⟩ = some (.slice na2 k nc2) := fun o => (World.cell?_alloc_lt _ _ _ (World.block_lt_of_cell? _ _ y1)).trans y1
             have z1 := World.new_ne _ _ y1)
          | (refine step_append_own (by rfl) _ _ _ (by rfl) w.heap.size 28 ir _ 1 24 Tryd.underlying23 hir hr0 hr1 hr2 rfl (by decide) (.slice na2 k nc2) _ _ (by rfl) hlA.out.rn.row ⟨z.heap.size, 0, none⟩ 1 1 [.slice va q.length vc] (by rfl) (by rfl) (cells_new z [_] _) (by simp [Value.oneCell']) (by have := hvl.out; unfold maxLen; omega) (by have := hvl.out; omega) (by have := hlA.out.below.size; simp at *; omega) ?_; intro v' w6 hown6 hgrow6; obtain ⟨a9, c9, rfl⟩ := shape_k hown6 (show _ = k + 1 by rw [hvl.out])
             have hb7 := box_grown hlA.out.b3 hlA.out.rn.row (by decide) hgrow6
             obtain ⟨⟨r0, r1, r2⟩, q0, q1, q2⟩ := box3g hb7)
          | fail)
        all_goals
          have hl6 := hidden (hlA.out.rows (l := q) htm.out (owns_keep hr5.out ((Below.refl z.heap.size z).alloc (Nat.le_refl _) (.cells #[.slice va q.length vc] 28))) hown6 hgrow6)
          clear hown6 hgrow6 hb7 r0 r1 r2 q0 q1 q2 x0 x1 x2 y0 y1 y2 hb3 hb4 z1 z2 hlA hlZ hlD hl f0 htm hvl hcl hr5 hown5 hB5
          go_wp2
          go_roundw
          case rel => exact ⟨k + 1, _, _, by omega, by go_num, hl6⟩
          case measure => simp [intOf]; omega
      · have hkl : Hid (k = d.ns.length) := by show _ = _; omega
        have hlt' : ¬ (k : Int) < (d.ns.length : Int) := by omega
        have s0 := set_heap hl.out.b2 0 (.slice a1 d.ss.length c1)
        have s1 := set_heap s0 1 (.slice na2 k nc2)
        have hrs := hidden (set_heap s1 2 (.slice a2 d.ac.length c2))
        have hO : Hid (OwnD w.heap.size d ws (.slice a1 d.ss.length c1) (.slice na2 k nc2) (.slice a2 d.ac.length c2) (((wr.setCell ⟨w.heap.size + 1, 0, none⟩ (.slice a1 d.ss.length c1)).setCell ⟨w.heap.size + 1, 1, none⟩ (.slice na2 k nc2)).setCell ⟨w.heap.size + 1, 2, none⟩ (.slice a2 d.ac.length c2))) := by
          refine ⟨own_set (own_set (own_set hl.out.rs hl.out.b2 (by decide) 0 _) s0 (by decide) 1 _) s1 (by decide) 2 _, ?_, own_set (own_set (own_set hl.out.ra hl.out.b2 (by decide) 0 _) s0 (by decide) 1 _) s1 (by decide) 2 _⟩
          have h := ((hl.out.rn.set hl.out.b2 0 (.slice a1 d.ss.length c1)).set s0 1 (.slice na2 k nc2)).set s1 2 (.slice a2 d.ac.length c2)
          have e9 : d.ns.take k = d.ns := by rw [hkl.out]; exact List.take_length
          rw [e9] at h
          exact h
        have hBF := hidden (((hl.out.below.setCell (p := ⟨w.heap.size + 1, 0, none⟩) (show w.heap.size ≤ w.heap.size + 1 by omega) (.slice a1 d.ss.length c1)).setCell (p := ⟨w.heap.size + 1, 1, none⟩) (show w.heap.size ≤ w.heap.size + 1 by omega) (.slice na2 k nc2)).setCell (p := ⟨w.heap.size + 1, 2, none⟩) (show w.heap.size ≤ w.heap.size + 1 by omega) (.slice a2 d.ac.length c2))
        obtain ⟨⟨o0, o1, o2⟩, -⟩ := box3g hl.out.b3
        obtain ⟨⟨t0, t1, t2⟩, y0, y1, y2⟩ := box3g hl.out.b2
        clear hl s0 s1 hvl
        go_wp2
        exact bodyPost_ret (results_cell_row rfl _ _ (w.heap.size + 1) _ _ _ _ rfl hrs.out Tryd.underlying26 rfl (by kernel_rfl)) rfl ⟨.slice a1 d.ss.length c1, .slice na2 k nc2, .slice a2 d.ac.length c2, rfl, ⟨ws, hO.out⟩, hBF.out⟩
  · have hO := o1_set (tC.out.trans (kk2.out.mono tC.out.size)) (box_below tA.out kk2.out) (box_below tB.out kk2.out) bx2 (by have := hsz.out; omega) (owns_keep (own_base hw1 (show w.heap.size ≤ (w0.drew.alloc _).heap.size by have := hsz.out; show w.heap.size ≤ (w0.heap.push _).size; simp; omega)) hB2) (own_base hw2 (show w.heap.size ≤ z1.heap.size by have := kk1.out.size; have := hsz.out; omega))
    obtain ⟨X, hX⟩ : ∃ X, Hid (X = ((z2.setCell ⟨w0.heap.size, 0, none⟩ (.slice a1 d.ss.length c1)).setCell ⟨w0.heap.size, 1, none⟩ (.slice none 0 0)).setCell ⟨w0.heap.size, 2, none⟩ (.slice a2 d.ac.length c2)) := ⟨_, (rfl : _ = _)⟩
    rw [← hX.out] at hO ⊢
    obtain ⟨bb, hbb⟩ : ∃ bb, Hid (bb = w0.heap.size) := ⟨_, (rfl : _ = _)⟩
    rw [← hbb.out] at hO ⊢
    replace hO := hidden hO
    have hnl := h2
    try clear hw1 hw2 hB1 hB2
    try clear bx1
    try clear bx2 v0 v1 v2 s0 s1 s2
    try clear p0 p1 p2 r0 r1 r2
    clear kk kk1 kk2 hcs hcb g0 g1 g2 y0 y1 y2 u0 u1 u2 n0 n1 n2 tA tB tC hsz hs' hb' hv
    obtain ⟨⟨g0, g1, g2⟩, -⟩ := box3g hO.out.b1
    go_wp2_with fail
    go_loopw [16] (fun i x => ∃ (k : Nat) (un : Value) (ws : List RwV), k ≤ d.ns.length ∧ i = .int .i64 k ∧ Hid (O1 (.slice sa d.ss.length sc) (.slice na d.ns.length nc) (.slice ba d.ac.length bc) (.slice a1 d.ss.length c1) un (.slice a2 d.ac.length c2) d ws k bb w x)) (fun i _ => d.ns.length - (intOf i).toNat)
    case atStart => exact ⟨0, _, [], Nat.zero_le _, rfl, hO⟩
    case round =>
      clear hO g0 g1 g2
      obtain ⟨k, un, ws, hk, rfl, hl⟩ := hrel
      have hvl : Hid (ws.length = k) := by show _ = _; rw [hl.out.rn.len, List.length_take]; omega
      obtain ⟨na2, nc2, rfl⟩ := shape_k hl.out.rn.row hvl.out
      by_cases hlt : k < d.ns.length
      · have hlt' : (k : Int) < (d.ns.length : Int) := by omega
        have hk9 : (k : Int) ≤ 1000 := by omega
        obtain ⟨b5, o5, pa, pn, pc, hna, hb5, e0, hrow⟩ := rows_at hN.out hlt
        have hcn : pa = none → pc = 0 := hNc.out k hlt b5 o5 pa pn pc hna e0
        subst hna
        have htm := hidden (take_snocR d.ns [] k hlt)
        have hpl : (d.ns.getD k []).length ≤ 1000 := by
          have e : d.ns.getD k [] = d.ns[k] := by simp [List.getD, hlt]
          rw [e]
          exact h4.out _ (List.getElem_mem hlt)
        generalize d.ns.getD k [] = q at *
        have f0 := (hl.out.below.cell (p := ⟨b5, o5 + k, none⟩) (by exact hb5)).trans e0
        obtain ⟨pa', pc', heq, hprow⟩ := hrow
        simp only [Value.slice.injEq] at heq
        obtain ⟨rfl, rfl, rfl⟩ := heq
        have hfw := fun x (hx : Below w.heap.size w x) => intclone_c pa pc q x (hprow.below hx) hpl hcn
        have hlD := hidden (hl.out.step (Below.refl _ _).drew)
        have hb3 : Hid (wr.heap[bb]? = some (.cells #[.slice a1 d.ss.length c1, .slice na2 k nc2, .slice a2 d.ac.length c2] 26)) := hl.out.b3
        obtain ⟨⟨x0, x1, x2⟩, -⟩ := box3g hb3.out
        have hcl := hfw wr.drew hlD.out.below
        replace hpl := hidden hpl
        replace hprow := hidden hprow
        replace hcn := hidden hcn
        clear e0 hfw
        go_wp2_with fail
        go_region_law (first
          | (refine step_wp (by rfl) (wp_call (vs := #[.slice pa q.length pc]) (by rfl) (fun _ _ => rfl) (by simp only [List.map_toArray, List.map_cons, List.map_nil] <;> rfl) (hcl.mono ?_)); rintro e z ⟨va, vc, rfl, hown5, hB5⟩; refine ⟨_, rfl, ?_⟩
             have hlZ := hidden (hlD.out.step hB5)
             have hr5 := hidden (own_base hown5 hl.out.below.size)
             have hlA := hidden (hlZ.out.step ((Below.refl _ _).alloc (Nat.le_refl _) (.cells #[.slice va q.length vc] 28)))
             have hb4 : z.heap[bb]? = some (.cells #[.slice a1 d.ss.length c1, .slice na2 k nc2, .slice a2 d.ac.length c2] 26) := hlZ.out.b3
             obtain ⟨⟨y0, y1, y2⟩, -⟩ := box3g hb4
             have z2 : ∀ o, (z.alloc o).cell? ⟨bb, 1, none⟩ = some (.slice na2 k nc2) := fun o => (World.cell?_alloc_lt _ _ _ (World.block_lt_of_cell? _ _ y1)).trans y1
             have z1 := World.new_ne _ _ y1)
          | (refine step_append_own (by rfl) _ _ _ (by rfl) w.heap.size 28 ir _ 1 24 Tryd.underlying23 hir hr0 hr1 hr2 rfl (by decide) (.slice na2 k nc2) _ _ (by rfl) hlA.out.rn.row ⟨z.heap.size, 0, none⟩ 1 1 [.slice va q.length vc] (by rfl) (by rfl) (cells_new z [_] _) (by simp [Value.oneCell']) (by have := hvl.out; unfold maxLen; omega) (by have := hvl.out; omega) (by have := hlA.out.below.size; simp at *; omega) ?_; intro v' w6 hown6 hgrow6; obtain ⟨a9, c9, rfl⟩ := shape_k hown6 (show _ = k + 1 by rw [hvl.out])
             have hb7 := box_grown hlA.out.b3 hlA.out.rn.row (by decide) hgrow6
             obtain ⟨⟨r0, r1, r2⟩, q0, q1, q2⟩ := box3g hb7)
          | fail)
        all_goals
          have hl6 := hidden (hlA.out.rows (l := q) htm.out (owns_keep hr5.out ((Below.refl z.heap.size z).alloc (Nat.le_refl _) (.cells #[.slice va q.length vc] 28))) hown6 hgrow6)
          clear hown6 hgrow6 hb7 r0 r1 r2 q0 q1 q2 x0 x1 x2 y0 y1 y2 hb3 hb4 z1 z2 hlA hlZ hlD hl f0 htm hvl hcl hr5 hown5 hB5
          go_wp2
          go_roundw
          case rel => exact ⟨k + 1, _, _, by omega, by go_num, hl6⟩
          case measure => simp [intOf]; omega
      · have hkl : Hid (k = d.ns.length) := by show _ = _; omega
        have hlt' : ¬ (k : Int) < (d.ns.length : Int) := by omega
        have s0 := set_heap hl.out.b2 0 (.slice a1 d.ss.length c1)
        have s1 := set_heap s0 1 (.slice na2 k nc2)
        have hrs := hidden (set_heap s1 2 (.slice a2 d.ac.length c2))
        have hO : Hid (OwnD w.heap.size d ws (.slice a1 d.ss.length c1) (.slice na2 k nc2) (.slice a2 d.ac.length c2) (((wr.setCell ⟨w.heap.size + 1, 0, none⟩ (.slice a1 d.ss.length c1)).setCell ⟨w.heap.size + 1, 1, none⟩ (.slice na2 k nc2)).setCell ⟨w.heap.size + 1, 2, none⟩ (.slice a2 d.ac.length c2))) := by
          refine ⟨own_set (own_set (own_set hl.out.rs hl.out.b2 (by decide) 0 _) s0 (by decide) 1 _) s1 (by decide) 2 _, ?_, own_set (own_set (own_set hl.out.ra hl.out.b2 (by decide) 0 _) s0 (by decide) 1 _) s1 (by decide) 2 _⟩
          have h := ((hl.out.rn.set hl.out.b2 0 (.slice a1 d.ss.length c1)).set s0 1 (.slice na2 k nc2)).set s1 2 (.slice a2 d.ac.length c2)
          have e9 : d.ns.take k = d.ns := by rw [hkl.out]; exact List.take_length
          rw [e9] at h
          exact h
        have hBF := hidden (((hl.out.below.setCell (p := ⟨w.heap.size + 1, 0, none⟩) (show w.heap.size ≤ w.heap.size + 1 by omega) (.slice a1 d.ss.length c1)).setCell (p := ⟨w.heap.size + 1, 1, none⟩) (show w.heap.size ≤ w.heap.size + 1 by omega) (.slice na2 k nc2)).setCell (p := ⟨w.heap.size + 1, 2, none⟩) (show w.heap.size ≤ w.heap.size + 1 by omega) (.slice a2 d.ac.length c2))
        obtain ⟨⟨o0, o1, o2⟩, -⟩ := box3g hl.out.b3
        obtain ⟨⟨t0, t1, t2⟩, y0, y1, y2⟩ := box3g hl.out.b2
        clear hl s0 s1 hvl
        go_wp2
        exact bodyPost_ret (results_cell_row rfl _ _ (w.heap.size + 1) _ _ _ _ rfl hrs.out Tryd.underlying26 rfl (by kernel_rfl)) rfl ⟨.slice a1 d.ss.length c1, .slice na2 k nc2, .slice a2 d.ac.length c2, rfl, ⟨ws, hO.out⟩, hBF.out⟩
end Go.Proofs.YtfdbedeidcaonabDoor
