/-
  AN ITEM IN MEMORY OF ITS OWN, somewhat cut: by contract.
-/
import Derived.Test.YtcdkpeikjnpmhaaGreatOpenI
import Derived.Test.YtcdkpeikjnpmhaaGreatFew
import Derived.Laws.Rows
import Derived.Laws.ResultCell
namespace Go.Proofs.YtcdkpeikjnpmhaaGreat
open Go.ChangeShapes Go.WideShapes Go.ChangeAt Go.RowKit

theorem hiddenI {p : Prop} (h : p) : Hid p := h
theorem heap_setI {x : World} {b : Nat} {cs : Array Value} {t : TypeId} (h : x.heap[b]? = some (.cells cs t)) (j : Nat) (v : Value) : (x.setCell ⟨b, j, none⟩ v).heap[b]? = some (.cells (cs.setIfInBounds j v) t) := by
  simp [World.setCell, Array.getElem?_modify, h]
theorem heap_oI {x : World} {p : Addr} {v : Value} {b : Nat} (h : p.block ≠ b) : (x.setCell p v).heap[b]? = x.heap[b]? := by
  simp [World.setCell, Array.getElem?_modify, h]
theorem heap_set4 {x : World} {b : Nat} {a0 a1 a2 a3 : Value} {t : TypeId} (h : x.heap[b]? = some (.cells #[a0, a1, a2, a3] t)) (c0 c1 c2 c3 : Value) :
    ((((x.setCell ⟨b, 0, none⟩ c0).setCell ⟨b, 1, none⟩ c1).setCell ⟨b, 2, none⟩ c2).setCell ⟨b, 3, none⟩ c3).heap[b]? = some (.cells #[c0, c1, c2, c3] t) := by
  have h1 := heap_setI h 0 c0
  have h2 := heap_setI h1 1 c1
  have h3 := heap_setI h2 2 c2
  have h4 := heap_setI h3 3 c3
  simpa using h4
theorem box4 {x : World} {b : Nat} {c0 c1 c2 c3 : Value} {t : TypeId} (h : x.heap[b]? = some (.cells #[c0, c1, c2, c3] t)) :
    (x.cell? ⟨b, 0, none⟩ = some c0 ∧ x.cell? ⟨b, 1, none⟩ = some c1 ∧ x.cell? ⟨b, 2, none⟩ = some c2 ∧ x.cell? ⟨b, 3, none⟩ = some c3) ∧ x.frozen? ⟨b, 0, none⟩ = false ∧ x.frozen? ⟨b, 1, none⟩ = false ∧ x.frozen? ⟨b, 2, none⟩ = false ∧ x.frozen? ⟨b, 3, none⟩ = false := by
  refine ⟨⟨?_, ?_, ?_, ?_⟩, ?_, ?_, ?_, ?_⟩ <;> simp [World.cell?, World.frozen?, h]
theorem heap2_new (w : World) (a b : Obj) : ((w.alloc a).alloc b).heap[w.heap.size + 1]? = some b := by
  rw [show w.heap.size + 1 = (w.alloc a).heap.size by show _ = (w.heap.push a).size; simp]
  exact heap_alloc_new _ _
theorem heap2_old (w : World) (a b : Obj) : ((w.alloc a).alloc b).heap[w.heap.size]? = some a :=
  (heap_alloc_old _ _ (by show _ < (w.heap.push a).size; simp)).trans (heap_alloc_new _ _)
/-- An item as a value. -/
def itV (y : It) (nv : Value) : Value := .agg #[.int .i64 y.c, nv, .int .i64 y.p, .int .i64 y.r]
/-- An item, its row cut. -/
def It.few (y : It) (m : Nat) : It := ⟨y.c, y.l.take m, y.p, y.r⟩
set_option maxHeartbeats 1600000 in
theorem itemO_c (y : It) (nv : Value) (w : World) (hv : Holds w nv (y.l.map (Value.int .i64))) (hz : y.l.length ≤ 9223372036854775807) : Calls Tryz.prog 14 #[itV y nv] w fun e w' =>
    ∃ nv', e = .returned (itV (y.few 5) nv') ∧ w'.ownsRow 0 3 1 nv' (y.few 5).l.length ((y.few 5).l.map (Value.int .i64)) ∧ Below w.heap.size w w' := by
  obtain ⟨c, l, p, r⟩ := y
  simp only [itV, It.few] at hv hz ⊢
  have hB2 : Below w.heap.size w ((w.alloc (.cells #[.int .i64 c, nv, .int .i64 p, .int .i64 r] 39)).alloc (.cells #[.int .i64 0, .slice none 0 0, .int .i64 0, .int .i64 0] 39)) :=
    ((Below.refl _ _).alloc (Nat.le_refl _) _).alloc (by show _ ≤ (w.heap.push _).size; simp) _
  have hfew := few_c nv l 5 _ (hv.below hB2) hz (by omega)
  have hX0 := hiddenI (heap2_old w (.cells #[.int .i64 c, nv, .int .i64 p, .int .i64 r] 39) (.cells #[.int .i64 0, .slice none 0 0, .int .i64 0, .int .i64 0] 39))
  have hR0 := hiddenI (heap2_new w (.cells #[.int .i64 c, nv, .int .i64 p, .int .i64 r] 39) (.cells #[.int .i64 0, .slice none 0 0, .int .i64 0, .int .i64 0] 39))
  have hs2 : ((w.alloc (.cells #[.int .i64 c, nv, .int .i64 p, .int .i64 r] 39)).alloc (.cells #[.int .i64 0, .slice none 0 0, .int .i64 0, .int .i64 0] 39)).heap.size = w.heap.size + 2 := by
    show ((w.heap.push _).push _).size = _; simp
  replace hB2 := hiddenI hB2
  replace hs2 := hiddenI hs2
  clear hv hz
  go_enter Tryz.func14, Tryz.ntmps14
  go_wp2_with fail
  refine hfew.mono ?_
  rintro e w1 ⟨nv', rfl, hown, hB⟩
  obtain ⟨a5, c5, rfl, -⟩ := holds_of_owns hown
  generalize hn5 : ((l.take 5).map (Value.int .i64)).length = n5 at *
  replace hn5 := hiddenI hn5
  have hX := (hB.block _ (by rw [hs2.out]; omega)).trans hX0.out
  have hR := (hB.block _ (by rw [hs2.out]; omega)).trans hR0.out
  have hnv := holds_of_owns hown
  have hBw : Below w.heap.size w w1 := hB2.out.trans (hB.mono (by rw [hs2.out]; omega))
  obtain ⟨⟨x0, x1, x2, x3⟩, z0, z1, z2, z3⟩ := box4 hX
  obtain ⟨⟨r0, r1, r2, r3⟩, y0, y1, y2, y3⟩ := box4 hR
  have hfinH : Hid ((((((w1.setCell ⟨w.heap.size, 1, none⟩ (.slice a5 n5 c5)).setCell ⟨w.heap.size + 1, 0, none⟩ (.int .i64 c)).setCell ⟨w.heap.size + 1, 1, none⟩ (.slice a5 n5 c5)).setCell ⟨w.heap.size + 1, 2, none⟩ (.int .i64 p)).setCell ⟨w.heap.size + 1, 3, none⟩ (.int .i64 r)).heap[w.heap.size + 1]? = some (.cells #[.int .i64 c, (.slice a5 n5 c5), .int .i64 p, .int .i64 r] 39)) :=
    heap_set4 ((heap_oI (by show w.heap.size ≠ _; omega)).trans hR) _ _ _ _
  have hBf : Hid (Below w.heap.size w (((((w1.setCell ⟨w.heap.size, 1, none⟩ (.slice a5 n5 c5)).setCell ⟨w.heap.size + 1, 0, none⟩ (.int .i64 c)).setCell ⟨w.heap.size + 1, 1, none⟩ (.slice a5 n5 c5)).setCell ⟨w.heap.size + 1, 2, none⟩ (.int .i64 p)).setCell ⟨w.heap.size + 1, 3, none⟩ (.int .i64 r))) :=
    ((((hBw.setCell (Nat.le_refl _) _).setCell (Nat.le_succ _) _).setCell (Nat.le_succ _) _).setCell (Nat.le_succ _) _).setCell (Nat.le_succ _) _
  have hnf : Hid (World.ownsRow (((((w1.setCell ⟨w.heap.size, 1, none⟩ (.slice a5 n5 c5)).setCell ⟨w.heap.size + 1, 0, none⟩ (.int .i64 c)).setCell ⟨w.heap.size + 1, 1, none⟩ (.slice a5 n5 c5)).setCell ⟨w.heap.size + 1, 2, none⟩ (.int .i64 p)).setCell ⟨w.heap.size + 1, 3, none⟩ (.int .i64 r)) 0 3 1 (.slice a5 n5 c5) (l.take 5).length ((l.take 5).map (Value.int .i64))) := by
    have hown2 := hown
    rcases hown2.2 with ⟨h1, h2⟩ | ⟨g, cap, cur, h1, h2, h3, h4, h5, h6, h7⟩
    · exact ⟨by simp, .inl ⟨h1, h2⟩⟩
    · rw [hs2.out] at h2
      have ho : ∀ (b : Nat) (v : Value) (j : Nat) (x : World), b ≠ g → (x.setCell ⟨b, j, none⟩ v).heap[g]? = x.heap[g]? := fun b v j x hb => heap_oI hb
      refine ⟨by simp, .inr ⟨g, cap, cur, h1, Nat.zero_le _, ?_, h4, h5, h6, h7⟩⟩
      rw [ho _ _ _ _ (by omega), ho _ _ _ _ (by omega), ho _ _ _ _ (by omega), ho _ _ _ _ (by omega), ho _ _ _ _ (by omega)]
      exact h3
  clear hX0 hR0 hB hX hR hnv hBw hown hfew hs2 hB2
  obtain ⟨R, hRe⟩ : ∃ R, R = w.heap.size + 1 := ⟨_, rfl⟩
  obtain ⟨X, hXe⟩ : ∃ X, X = w.heap.size := ⟨_, rfl⟩
  have n1 : X ≠ R := by omega
  have n2 : R ≠ X := by omega
  rw [← hXe] at x0 x1 x2 x3 z0 z1 z2 z3
  rw [← hRe] at r0 r1 r2 r3 y0 y1 y2 y3
  rw [← hRe, ← hXe]
  replace hRe := hiddenI hRe
  replace hXe := hiddenI hXe
  go_wp2
  replace hfinH := hfinH.out
  replace hBf := hBf.out
  replace hnf := hnf.out
  rw [← hRe.out, ← hXe.out] at hfinH hBf hnf
  refine bodyPost_ret (results_cell_row rfl _ _ R _ _ _ _ rfl hfinH Tryz.underlying39 rfl (by kernel_rfl)) rfl ⟨.slice a5 n5 c5, rfl, hnf, ?_⟩
  rw [hXe.out] at hBf ⊢
  exact hBf
theorem item_c (y : It) (nv : Value) (w : World) (hv : Holds w nv (y.l.map (Value.int .i64))) (hz : y.l.length ≤ 9223372036854775807) : Calls Tryz.prog 14 #[itV y nv] w fun e w' =>
    ∃ nv', e = .returned (itV (y.few 5) nv') ∧ Holds w' nv' ((y.few 5).l.map (Value.int .i64)) ∧ Below w.heap.size w w' :=
  (itemO_c y nv w hv hz).mono fun _ _ ⟨nv', he, ho, hB⟩ => ⟨nv', he, holds_of_owns ho, hB⟩
end Go.Proofs.YtcdkpeikjnpmhaaGreat
