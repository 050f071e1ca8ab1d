/-
  VALUES HELD AGAINST EACH OTHER: the program's order of values, by contract.
-/
import Derived.Test.YtfjhiaafabmpbabVCmp
namespace Go.Proofs.Ytfjhiaafabmpbab
open Go.ChangeShapes Go.WideShapes Go.ChangeAt Go.RowKit

theorem still_tail2 {P : Program} {id : Nat} {Q : Exit → Act → World → Prop} {a : Act} {w : World} {l : List Oper} (n : Nat) (hm : P.follows .mixedOrders = true) (hB : Region.lexTailB .any l.toArray n = true) (w2 : World) (hw : w2 = w.drew)
    (h : wpStill P l.toArray w2 (fun a' => wpList P l.toArray Q (l.drop n) a' w2) (l.take n) a) : (Code.region id l.toArray true).wp P Q a w := by
  subst hw; exact wp_region_still_tail n hm hB h
/-- Two boxes, and a draw. -/
theorem boxes2 (w : World) (a b : Array Value) (t u : TypeId) : Below w.heap.size w ((w.alloc (.cells a t)).alloc (.cells b u)).drew ∧
    (∀ j x, a[j]? = some x → ((w.alloc (.cells a t)).alloc (.cells b u)).drew.cell? ⟨w.heap.size, j, none⟩ = some x) ∧
    (∀ j x, b[j]? = some x → ((w.alloc (.cells a t)).alloc (.cells b u)).drew.cell? ⟨w.heap.size + 1, j, none⟩ = some x) := by
  have e1 : ((w.alloc (.cells a t)).alloc (.cells b u)).drew.heap[w.heap.size]? = some (.cells a t) := by
    show ((w.heap.push (Obj.cells a t)).push (Obj.cells b u))[w.heap.size]? = _
    simp [Array.getElem?_push]
  have e2 : ((w.alloc (.cells a t)).alloc (.cells b u)).drew.heap[w.heap.size + 1]? = some (.cells b u) := by
    show ((w.heap.push (Obj.cells a t)).push (Obj.cells b u))[w.heap.size + 1]? = _
    rw [show w.heap.size + 1 = (w.heap.push (Obj.cells a t)).size by simp]
    exact Array.getElem?_push_size
  refine ⟨(((Below.refl _ _).alloc (Nat.le_refl _) _).alloc (by show _ ≤ (w.heap.push (Obj.cells a t)).size; simp) _).drew, fun j x h => ?_, fun j x h => ?_⟩
  · simp only [World.cell?, e1]; simpa using h
  · simp only [World.cell?, e2]; simpa using h
/-- A value. -/
structure V where
  k : Int
  n : Int
  s : ByteArray
def V.v (x : V) : Value := .agg #[.int .i64 x.k, .int .i64 x.n, .string x.s]
def vcmp (x y : V) : Int := orS (cmpI x.k y.k) (cmpI x.n y.n) (cmpS x.s y.s)
theorem vcmp_c (k n k' n' : Int) (s s' : ByteArray) (w : World) : Calls Try.prog 9 #[.agg #[.int .i64 k, .int .i64 n, .string s], .agg #[.int .i64 k', .int .i64 n', .string s']] w
    fun e w' => e = .returned (.int .i64 (orS (cmpI k k') (cmpI n n') (cmpS s s'))) ∧ Below w.heap.size w w' := by
  have hi := fun a b w => cmpi_c a b w
  have hs := fun w => cmps_c s s' w
  generalize cmpS s s' = C at *
  have hk := fun w => hi k k' w
  have hn := fun w => hi n n' w
  clear hi
  generalize cmpI k k' = A at *
  generalize cmpI n n' = B at *
  have ho := fun b w h0 h1 h2 => or_c A B C b w h0 h1 h2
  generalize orS A B C = R at *
  go_enter Try.func9, Try.ntmps9
  go_wp2_with fail
  obtain ⟨hB, hc1, hc2⟩ := boxes2 w #[.int .i64 k, .int .i64 n, .string s] #[.int .i64 k', .int .i64 n', .string s'] 24 24
  obtain ⟨w2, hw2⟩ : ∃ w2, w2 = ((w.alloc (.cells #[.int .i64 k, .int .i64 n, .string s] 24)).alloc (.cells #[.int .i64 k', .int .i64 n', .string s'] 24)).drew := ⟨_, rfl⟩
  rw [← hw2] at hB hc1 hc2
  have f0 := hc1 0 _ rfl
  have f1 := hc1 1 _ rfl
  have f2 := hc1 2 _ rfl
  have g0 := hc2 0 _ rfl
  have g1 := hc2 1 _ rfl
  have g2 := hc2 2 _ rfl
  clear hc1 hc2
  refine still_tail2 15 (by kernel_rfl) (by kernel_rfl) w2 hw2 ?_
  clear hw2
  simp only [List.take_succ_cons, List.take_zero, List.drop_succ_cons, List.drop_zero]
  repeat still_step
  still_call (hk _)
  repeat still_step
  still_call (hn _)
  repeat still_step
  still_call (hs _)
  refine wpStill_nil ?_
  clear hk hn hs f0 f1 f2 g0 g1 g2
  have hsz := hB.size
  go_wp2_with fail
  refine (ho w2.heap.size _ (by rw [World.cell?_alloc_new]; rfl) (by rw [World.cell?_alloc_new]; rfl) (by rw [World.cell?_alloc_new]; rfl)).mono ?_
  rintro e w3 ⟨rfl, rfl⟩
  go_wp2
  go_ret
  exact ⟨rfl, hB.alloc hsz _⟩
end Go.Proofs.Ytfjhiaafabmpbab
