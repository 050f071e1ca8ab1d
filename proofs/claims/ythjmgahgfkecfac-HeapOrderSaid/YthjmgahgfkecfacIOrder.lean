/-
  ITEMS HELD AGAINST EACH OTHER: the program's order, by contract.
-/
import Derived.Test.YthjmgahgfkecfacICmp
import Derived.Test.YthjmgahgfkecfacItem
namespace Go.Proofs.Ythjmgahgfkecfac
open Go.ChangeShapes Go.WideShapes Go.ChangeAt Go.RowKit

/-- Which of two items stands first. -/
def icmp (x y : It) : Int := if cmpI x.c y.c = 0 then orS (lcmp x.l y.l) (cmpI x.p y.p) (cmpI x.r y.r) else cmpI x.c y.c
/-- Two boxes. -/
theorem boxes2n (w : World) (a b : Array Value) (t u : TypeId) : Below w.heap.size w ((w.alloc (.cells a t)).alloc (.cells b u)) ∧
    (∀ j x, a[j]? = some x → ((w.alloc (.cells a t)).alloc (.cells b u)).cell? ⟨w.heap.size, j, none⟩ = some x) ∧
    (∀ j x, b[j]? = some x → ((w.alloc (.cells a t)).alloc (.cells b u)).cell? ⟨w.heap.size + 1, j, none⟩ = some x) :=
  ⟨((Below.refl _ _).alloc (Nat.le_refl _) _).alloc (by show _ ≤ (w.heap.push (Obj.cells a t)).size; simp) _, (boxes2 w a b t u).2.1, (boxes2 w a b t u).2.2⟩
set_option maxHeartbeats 1600000 in
set_option maxRecDepth 1000000 in
theorem horder_c (x y : It) (nx ny : Value) (w : World) (hx : Holds w nx (x.l.map (Value.int .i64))) (hy : Holds w ny (y.l.map (Value.int .i64))) (hxl : x.l.length ≤ 17592186044416) (hyl : y.l.length ≤ 17592186044416) :
    Calls Try.prog 6 #[itV x nx, itV y ny] w fun e w' => e = .returned (.int .i64 (icmp x y)) ∧ Below w.heap.size w w' := by
  obtain ⟨c, l, p, r⟩ := x
  obtain ⟨c', l', p', r'⟩ := y
  simp only [itV, icmp] at hx hy hxl hyl ⊢
  have hl : ∀ w2, Below w.heap.size w w2 → Calls Try.prog 14 #[nx, ny] w2 fun e w' => e = .returned (.int .i64 (lcmp l l')) ∧ w' = w2 :=
    fun w2 h => scmp_c nx ny l l' w2 (hx.below h) (hy.below h) hxl hyl
  have hk := fun w => cmpi_c c c' w
  have hp := fun w => cmpi_c p p' w
  have hr := fun w => cmpi_c r r' w
  generalize lcmp l l' = L at *
  generalize cmpI c c' = C at *
  generalize cmpI p p' = P at *
  generalize cmpI r r' = R at *
  have ho := fun b w h0 h1 h2 => or_c L P R b w h0 h1 h2
  generalize orS L P R = O at *
  have hZ : Hid ((C = 0 → (if C = 0 then O else C) = O) ∧ (C ≠ 0 → (if C = 0 then O else C) = C)) := ⟨fun h => if_pos h, fun h => if_neg h⟩
  generalize (if C = 0 then O else C) = Z at *
  obtain ⟨hB, hc1, hc2⟩ := boxes2n w #[.int .i64 c, nx, .int .i64 p, .int .i64 r] #[.int .i64 c', ny, .int .i64 p', .int .i64 r'] 24 24
  obtain ⟨w2, hw2⟩ : ∃ w2, w2 = (w.alloc (.cells #[.int .i64 c, nx, .int .i64 p, .int .i64 r] 24)).alloc (.cells #[.int .i64 c', ny, .int .i64 p', .int .i64 r'] 24) := ⟨_, rfl⟩
  rw [← hw2] at hB hc1 hc2
  have f0 := hc1 0 _ rfl
  have f1 := hc1 1 _ rfl
  have f2 := hc1 2 _ rfl
  have f3 := hc1 3 _ rfl
  have g0 := hc2 0 _ rfl
  have g1 := hc2 1 _ rfl
  have g2 := hc2 2 _ rfl
  have g3 := hc2 3 _ rfl
  clear hc1 hc2 hx hy hxl hyl
  replace hw2 := hiddenI hw2
  replace hB := hiddenI hB
  go_enter Try.func6, Try.ntmps6
  go_wp2_with fail
  rw [← hw2.out]
  refine (hk w2).mono ?_
  rintro e w3 ⟨rfl, rfl⟩
  clear hw2 hk
  by_cases hC : C = 0
  · replace hZ := hiddenI (hZ.out.1 hC)
    subst hC
    go_wp2_with fail
    have f1 : w3.drew.cell? ⟨w.heap.size, 1, none⟩ = some nx := f1
    have f2 : w3.drew.cell? ⟨w.heap.size, 2, none⟩ = some (.int .i64 p) := f2
    have f3 : w3.drew.cell? ⟨w.heap.size, 3, none⟩ = some (.int .i64 r) := f3
    have g1 : w3.drew.cell? ⟨w.heap.size + 1, 1, none⟩ = some ny := g1
    have g2 : w3.drew.cell? ⟨w.heap.size + 1, 2, none⟩ = some (.int .i64 p') := g2
    have g3 : w3.drew.cell? ⟨w.heap.size + 1, 3, none⟩ = some (.int .i64 r') := g3
    have hB : Hid (Below w.heap.size w w3.drew) := hB.out.drew
    obtain ⟨wd, hwd⟩ : ∃ wd, wd = w3.drew := ⟨_, rfl⟩
    rw [← hwd] at f1 f2 f3 g1 g2 g3 hB
    have hl := hl wd hB.out
    refine still_tail2 15 (by kernel_rfl) (by kernel_rfl) wd hwd ?_
    clear hwd f0 g0
    simp only [List.take_succ_cons, List.take_zero, List.drop_succ_cons, List.drop_zero]
    repeat still_step
    still_call hl
    repeat still_step
    still_call (hp _)
    repeat still_step
    still_call (hr _)
    refine wpStill_nil ?_
    clear hp hr hl f1 f2 f3 g1 g2 g3
    have hsz := hB.out.size
    go_wp2_with fail
    refine (ho wd.heap.size _ (by rw [World.cell?_alloc_new]; rfl) (by rw [World.cell?_alloc_new]; rfl) (by rw [World.cell?_alloc_new]; rfl)).mono ?_
    rintro e w4 ⟨rfl, rfl⟩
    go_wp2
    go_ret
    exact ⟨by rw [hZ.out]; first | done | rfl, hB.out.alloc hsz _⟩
  · replace hZ := hiddenI (hZ.out.2 hC)
    clear hl hp hr ho
    go_wp2
    go_ret
    exact ⟨by rw [hZ.out]; first | done | rfl, hB.out⟩
end Go.Proofs.Ythjmgahgfkecfac
