/-
  VALUES, SOMEWHAT CUT, IN TWO BOXES: the region that stores them.
-/
import Derived.Test.YtfjhiaafabmpbaaDoorVFew
import Derived.Test.YtfjhiaafabmpbaaDoorVTest2
import Derived.Test.YtfjhiaafabmpbaaDoorVSign
import Derived.Test.YtfjhiaafabmpbaaDoorVGood3
import Derived.Test.YtfjhiaafabmpbaaDoorXCodeG
namespace Go.Proofs.YtfjhiaafabmpbaaDoor
open Go.ChangeShapes Go.WideShapes Go.ChangeAt Go.RowKit

theorem boxesH (w : World) (a b : Array Value) (t u : TypeId) : ((w.alloc (.cells a t)).alloc (.cells b u)).drew.heap[w.heap.size]? = some (.cells a t) ∧ ((w.alloc (.cells a t)).alloc (.cells b u)).drew.heap[w.heap.size + 1]? = some (.cells b u) := by
  constructor
  · show ((w.heap.push (Obj.cells a t)).push (Obj.cells b u))[w.heap.size]? = _
    simp [Array.getElem?_push]
  · show ((w.heap.push (Obj.cells a t)).push (Obj.cells b u))[w.heap.size + 1]? = _
    rw [show w.heap.size + 1 = (w.heap.push (Obj.cells a t)).size by simp]
    exact Array.getElem?_push_size
theorem box_facts {x : World} {b : Nat} {c0 c1 c2 : Value} {t : TypeId} (h : x.heap[b]? = some (.cells #[c0, c1, c2] t)) :
    (x.cell? ⟨b, 0, none⟩ = some c0 ∧ x.cell? ⟨b, 1, none⟩ = some c1 ∧ x.cell? ⟨b, 2, none⟩ = some c2) ∧ x.frozen? ⟨b, 0, none⟩ = false ∧ x.frozen? ⟨b, 1, none⟩ = false ∧ x.frozen? ⟨b, 2, none⟩ = false := by
  refine ⟨⟨?_, ?_, ?_⟩, ?_, ?_, ?_⟩ <;> simp [World.cell?, World.frozen?, h]
theorem stored {w x : World} {k n k' n' : Int} {s s' : ByteArray} {t t' : ByteArray} (hB : Below w.heap.size w x)
    (g0 : x.cell? ⟨w.heap.size, 0, none⟩ = some (.int .i64 k)) (g1 : x.cell? ⟨w.heap.size, 1, none⟩ = some (.int .i64 n)) (g2 : x.cell? ⟨w.heap.size, 2, none⟩ = some (.string s))
    (g3 : x.cell? ⟨w.heap.size + 1, 0, none⟩ = some (.int .i64 k')) (g4 : x.cell? ⟨w.heap.size + 1, 1, none⟩ = some (.int .i64 n')) (g5 : x.cell? ⟨w.heap.size + 1, 2, none⟩ = some (.string s')) :
    Keeps w (twoV w k n k' n' t t') ((((((x.setCell ⟨w.heap.size, 0, none⟩ (.int .i64 k)).setCell ⟨w.heap.size, 1, none⟩ (.int .i64 n)).setCell ⟨w.heap.size, 2, none⟩ (.string t)).setCell ⟨w.heap.size + 1, 0, none⟩ (.int .i64 k')).setCell ⟨w.heap.size + 1, 1, none⟩ (.int .i64 n')).setCell ⟨w.heap.size + 1, 2, none⟩ (.string t')) := by
  have o : ∀ {x : World} {p q : Addr} {v u : Value}, p ≠ q → x.cell? q = some u → (x.setCell p v).cell? q = some u := fun hne h => (World.cell?_setCell_other _ _ _ _ hne).trans h
  have sm : ∀ {x : World} {p : Addr} {v u : Value}, x.cell? p = some u → (x.setCell p v).cell? p = some v := fun h => World.cell?_setCell_same _ _ _ h
  refine ⟨(((((hB.setCell ?_ _).setCell ?_ _).setCell ?_ _).setCell ?_ _).setCell ?_ _).setCell ?_ _, fun p hp => ?_⟩
  iterate 6 (first | (show w.heap.size ≤ w.heap.size; omega) | (show w.heap.size ≤ w.heap.size + 1; omega))
  simp only [twoV, List.mem_cons, List.not_mem_nil, or_false] at hp
  rcases hp with rfl | rfl | rfl | rfl | rfl | rfl
  · exact o (by simp) (o (by simp) (o (by simp) (o (by simp) (o (by simp) (sm g0)))))
  · exact o (by simp) (o (by simp) (o (by simp) (o (by simp) (sm (o (by simp) g1)))))
  · exact o (by simp) (o (by simp) (o (by simp) (sm (o (by simp) (o (by simp) g2)))))
  · exact o (by simp) (o (by simp) (sm (o (by simp) (o (by simp) (o (by simp) g3)))))
  · exact o (by simp) (sm (o (by simp) (o (by simp) (o (by simp) (o (by simp) g4)))))
  · exact sm (o (by simp) (o (by simp) (o (by simp) (o (by simp) (o (by simp) g5)))))

/-- The same with the executor's relation. -/
def KeepsC (w : World) (F : List (Addr × Value)) (x : World) : Prop := GoX.Calm w x ∧ ∀ p ∈ F, x.cell? p.1 = some p.2
theorem calm_cell {x y : World} (h : GoX.Calm x y) {p : Addr} {v : Value} (hp : x.cell? p = some v) : y.cell? p = some v := by
  have hb := h.block p.block (World.block_lt_of_cell? x p hp)
  unfold World.cell? at hp ⊢
  rw [hb]; exact hp
theorem KeepsC.calm {w x y : World} {F : List (Addr × Value)} (h : KeepsC w F x) (hc : GoX.Calm x y) : KeepsC w F y := ⟨h.1.trans hc, fun p hp => calm_cell hc (h.2 p hp)⟩
theorem KeepsC.at {w : World} {F : List (Addr × Value)} (j : Nat) {p : Addr × Value} (hj : F[j]? = some p) (x : In (KeepsC w F)) : x.w.cell? p.1 = some p.2 := x.h.2 p (List.mem_of_getElem? hj)
theorem KeepsC.calls {P : Program} {w : World} {F : List (Addr × Value)} {f : FuncId} {args : Array Value} {v : Value} (h : ∀ x, KeepsC w F x → Calls P f args x fun e w' => e = .returned v ∧ Below x.heap.size x w') (x : In (KeepsC w F)) :
    Calls P f args x.w fun e w'' => e = .returned v ∧ ∃ y : In (KeepsC w F), w'' = y.w :=
  later_of ((h x.w x.h).mono fun _ _ ⟨he, hb⟩ => ⟨he, x.h.calm (GoX.Calm.of_below hb)⟩)
theorem KeepsC.callsC {P : Program} {w : World} {F : List (Addr × Value)} {f : FuncId} {args : Array Value} {v : Value} (h : ∀ x, KeepsC w F x → Calls P f args x fun e w' => e = .returned v ∧ GoX.Calm x w') (x : In (KeepsC w F)) :
    Calls P f args x.w fun e w'' => e = .returned v ∧ ∃ y : In (KeepsC w F), w'' = y.w :=
  later_of ((h x.w x.h).mono fun _ _ ⟨he, hb⟩ => ⟨he, x.h.calm hb⟩)
set_option maxHeartbeats 1600000 in
set_option maxRecDepth 100000 in
theorem law_c (o k n k' n' : Int) (s s' : ByteArray) (w : World)
    (hsig : ∀ k, k ≤ 6 → w.cell? ⟨0, k, none⟩ = some (.string (sgn k)))
    (hlv : ∀ x, Calls Tryd.prog 13 #[] x fun e w' => e = .returned (.bool true) ∧ GoX.Calm x w') :
    Calls Tryd.prog 3 #[.int .i64 o, .agg #[.int .i64 k, .int .i64 n, .string s], .agg #[.int .i64 k', .int .i64 n', .string s']] w fun e w' => e = .returned (.bool true) ∧ GoX.Calm w w' := by
  have hz1 := cutB_size s 120
  have hz2 := cutB_size s' 120
  have hf1 := fun w => vfew_c k n s w
  have hf2 := fun w => vfew_c k' n' s' w
  generalize cutB s 120 = t at *
  generalize cutB s' 120 = t' at *
  obtain ⟨hB0, hc⟩ := twoV_keeps w k n k' n' s s' 23 23
  have f0 := hc _ (List.mem_of_getElem? (i := 0) rfl)
  have f1 := hc _ (List.mem_of_getElem? (i := 1) rfl)
  have f2 := hc _ (List.mem_of_getElem? (i := 2) rfl)
  have f3 := hc _ (List.mem_of_getElem? (i := 3) rfl)
  have f4 := hc _ (List.mem_of_getElem? (i := 4) rfl)
  have f5 := hc _ (List.mem_of_getElem? (i := 5) rfl)
  dsimp only at f0 f1 f2 f3 f4 f5
  clear hc
  go_enter Tryd.func3, Tryd.ntmps3
  go_wp2_with fail
  obtain ⟨H0, H1⟩ := boxesH w #[.int .i64 k, .int .i64 n, .string s] #[.int .i64 k', .int .i64 n', .string s'] 23 23
  have z0 : w.heap.size < (((w.alloc (.cells #[.int .i64 k, .int .i64 n, .string s] 23)).alloc (.cells #[.int .i64 k', .int .i64 n', .string s'] 23)).drew).heap.size := World.block_lt_of_cell? _ _ f0
  have z1 : w.heap.size + 1 < (((w.alloc (.cells #[.int .i64 k, .int .i64 n, .string s] 23)).alloc (.cells #[.int .i64 k', .int .i64 n', .string s'] 23)).drew).heap.size := World.block_lt_of_cell? _ _ f3
  refine Code.wp_mono (Q := fun e a' x => e = Exit.normal ∧ a' = ({ tmps := #[.int .i64 o, .agg #[.int .i64 k, .int .i64 n, .string s], .agg #[.int .i64 k', .int .i64 n', .string s'], undef, .pointer (some ⟨w.heap.size, 0, none⟩), .pointer (some ⟨w.heap.size + 1, 0, none⟩), .bool false, .agg #[.int .i64 k, .int .i64 n, .string s], .agg #[.int .i64 k, .int .i64 n, .string t], .agg #[.int .i64 k', .int .i64 n', .string s'], .agg #[.int .i64 k', .int .i64 n', .string t'], undef, undef, undef, undef, undef, undef, undef, undef, undef, undef, undef, undef, undef, undef, undef, undef, undef, undef, undef, undef, undef, undef, undef, undef, undef, undef, undef, undef, undef, undef, undef, undef, undef, undef, undef], defers := [] } : Act) ∧ Keeps w (twoV w k n k' n' t t') x) ?hq ?h
  case h =>
    go_region_with (first
      | (go_at_call_of 4 (Value.agg #[.int .i64 k, .int .i64 n, .string s]); refine (hf1 _).mono ?_; rintro e w1 ⟨rfl, hB1⟩
         have g0 := (hB1.cell (p := ⟨w.heap.size, 0, none⟩) z0).trans f0
         have g1 := (hB1.cell (p := ⟨w.heap.size, 1, none⟩) z0).trans f1
         have g2 := (hB1.cell (p := ⟨w.heap.size, 2, none⟩) z0).trans f2
         have g3 := (hB1.cell (p := ⟨w.heap.size + 1, 0, none⟩) z1).trans f3
         have g4 := (hB1.cell (p := ⟨w.heap.size + 1, 1, none⟩) z1).trans f4
         have g5 := (hB1.cell (p := ⟨w.heap.size + 1, 2, none⟩) z1).trans f5
         have hf2 := hf2 w1)
      | (refine hf2.mono ?_; rintro e w2 ⟨rfl, hB2⟩
         have z2 := Nat.lt_of_lt_of_le z0 hB1.size
         have z3 := Nat.lt_of_lt_of_le z1 hB1.size
         have H2 := (hB2.block _ z2).trans ((hB1.block _ z0).trans H0)
         have H3 := (hB2.block _ z3).trans ((hB1.block _ z1).trans H1)
         clear g0 g1 g2 g3 g4 g5
         obtain ⟨⟨g0, g1, g2⟩, r0, r1, r2⟩ := box_facts H2
         obtain ⟨⟨g3, g4, g5⟩, r3, r4, r5⟩ := box_facts H3))
    all_goals exact ⟨rfl, rfl, stored (hB0.trans ((hB1.mono hB0.size).trans (hB2.mono (Nat.le_trans hB0.size hB1.size)))) g0 g1 g2 g3 g4 g5⟩
  case hq =>
    rintro _ _ x ⟨rfl, rfl, hx⟩
    have hk : KeepsC w (twoV w k n k' n' t t') x.drew := ⟨GoX.Calm.of_below hx.1.drew, fun p hp => hx.2 p hp⟩
    clear f0 f1 f2 f3 f4 f5 z0 z1 H0 H1 hB0 hf1 hf2 hx
    have f0 : ∀ x : In (KeepsC w (twoV w k n k' n' t t')), _ := KeepsC.at 0 rfl
    have f1 : ∀ x : In (KeepsC w (twoV w k n k' n' t t')), _ := KeepsC.at 1 rfl
    have f2 : ∀ x : In (KeepsC w (twoV w k n k' n' t t')), _ := KeepsC.at 2 rfl
    have f3 : ∀ x : In (KeepsC w (twoV w k n k' n' t t')), _ := KeepsC.at 3 rfl
    have f4 : ∀ x : In (KeepsC w (twoV w k n k' n' t t')), _ := KeepsC.at 4 rfl
    have f5 : ∀ x : In (KeepsC w (twoV w k n k' n' t t')), _ := KeepsC.at 5 rfl
    dsimp only at f0 f1 f2 f3 f4 f5
    have c1 := KeepsC.calls (F := twoV w k n k' n' t t') (w := w) fun x _ => vcmp_c k n k' n' t t' x
    have c2 := KeepsC.calls (F := twoV w k n k' n' t t') (w := w) fun x _ => rcmp_c k n k' n' t t' x
    have c3 := KeepsC.calls (F := twoV w k n k' n' t t') (w := w) fun x _ => vtest_c o k n k' n' t t' x
    have c4 := KeepsC.calls (F := twoV w k n k' n' t t') (w := w) fun x _ => rtest_c o k n k' n' t t' x
    have c5 := KeepsC.calls (F := twoV w k n k' n' t t') (w := w) fun x hx => vsign_c o x fun k hk => calm_cell hx.1 (hsig k hk)
    have c6 := KeepsC.calls (F := twoV w k n k' n' t t') (w := w) fun x _ => rvsign_c o x
    have c7 := KeepsC.calls (F := twoV w k n k' n' t t') (w := w) fun x _ => vgood_c k n t x (by omega)
    have c8 := KeepsC.calls (F := twoV w k n k' n' t t') (w := w) fun x _ => rgood_c k n t x (by omega)
    have c9 := KeepsC.callsC (F := twoV w k n k' n' t t') (w := w) fun x _ => hlv x
    generalize testV o k k' (orS (cmpI k k') (cmpI n n') (cmpS t t')) = B1 at *
    generalize orS (cmpI k k') (cmpI n n') (cmpS t t') = B2 at *
    generalize signV o = B3 at *
    generalize goodV k n t = B4 at *
    clear hsig hlv hz1 hz2
    go_wp2_with fail
    refine wp_region_later (KeepsC w (twoV w k n k' n' t t')) (by kernel_rfl) (by kernel_rfl) hk (fun hne => ?_)
    repeat (go_big_quiet_step (first | exact c1 _ | exact c2 _ | exact c3 _ | exact c4 _ | exact c5 _ | exact c6 _ | exact c7 _ | exact c8 _ | exact c9 _))
    refine wpQuiet_nil ?_
    intro wL hL
    clear c1 c2 c3 c4 c5 c6 c7 c8 c9 f0 f1 f2 f3 f4 f5
    go_wp2
    go_ret
    exact ⟨rfl, hL.1⟩
end Go.Proofs.YtfjhiaafabmpbaaDoor
