/-
  AN ITEM IN MEMORY OF ITS OWN: and where its row lies.
-/
import Derived.Test.YtapdkdfgjjdbkaaItems
namespace Go.Proofs.Ytapdkdfgjjdbkaa
open Go.ChangeShapes Go.WideShapes Go.ChangeAt Go.RowKit

set_option maxHeartbeats 1600000 in
theorem itemB_c (y : It) (nv : Value) (w : World) (hv : Holds w nv (y.l.map (Value.int .i64))) (hz : y.l.length ≤ 9223372036854775807) : Calls Try.prog 6 #[itV y nv] w fun e w' =>
    ∃ nv', e = .returned (itV (y.few 5) nv') ∧ w'.ownsRow w.heap.size 3 1 nv' (y.few 5).l.length ((y.few 5).l.map (Value.int .i64)) ∧ Below w.heap.size w w' := by
  obtain ⟨c, l, p, r⟩ := y
  simp only [itV, It.few] at hv hz ⊢
  have hB2 : Below w.heap.size w ((w.alloc (.cells #[.int .i64 c, nv, .int .i64 p, .int .i64 r] 24)).alloc (.cells #[.int .i64 0, .slice none 0 0, .int .i64 0, .int .i64 0] 24)) :=
    ((Below.refl _ _).alloc (Nat.le_refl _) _).alloc (by show _ ≤ (w.heap.push _).size; simp) _
  have hfew := few_c nv l 5 _ (hv.below hB2) hz (by omega)
  have hX0 := hiddenI (heap2_old w (.cells #[.int .i64 c, nv, .int .i64 p, .int .i64 r] 24) (.cells #[.int .i64 0, .slice none 0 0, .int .i64 0, .int .i64 0] 24))
  have hR0 := hiddenI (heap2_new w (.cells #[.int .i64 c, nv, .int .i64 p, .int .i64 r] 24) (.cells #[.int .i64 0, .slice none 0 0, .int .i64 0, .int .i64 0] 24))
  have hs2 : ((w.alloc (.cells #[.int .i64 c, nv, .int .i64 p, .int .i64 r] 24)).alloc (.cells #[.int .i64 0, .slice none 0 0, .int .i64 0, .int .i64 0] 24)).heap.size = w.heap.size + 2 := by
    show ((w.heap.push _).push _).size = _; simp
  replace hB2 := hiddenI hB2
  replace hs2 := hiddenI hs2
  clear hv hz
  go_enter Try.func6, Try.ntmps6
  go_wp2_with fail
  refine hfew.mono ?_
  rintro e w1 ⟨nv', rfl, hown, hB⟩
  obtain ⟨a5, c5, rfl, -⟩ := holds_of_owns hown
  generalize hn5 : ((l.take 5).map (Value.int .i64)).length = n5 at *
  replace hn5 := hiddenI hn5
  have hX := (hB.block _ (by rw [hs2.out]; omega)).trans hX0.out
  have hR := (hB.block _ (by rw [hs2.out]; omega)).trans hR0.out
  have hnv := holds_of_owns hown
  have hBw : Below w.heap.size w w1 := hB2.out.trans (hB.mono (by rw [hs2.out]; omega))
  obtain ⟨⟨x0, x1, x2, x3⟩, z0, z1, z2, z3⟩ := box4 hX
  obtain ⟨⟨r0, r1, r2, r3⟩, y0, y1, y2, y3⟩ := box4 hR
  have hfinH : Hid ((((((w1.setCell ⟨w.heap.size, 1, none⟩ (.slice a5 n5 c5)).setCell ⟨w.heap.size + 1, 0, none⟩ (.int .i64 c)).setCell ⟨w.heap.size + 1, 1, none⟩ (.slice a5 n5 c5)).setCell ⟨w.heap.size + 1, 2, none⟩ (.int .i64 p)).setCell ⟨w.heap.size + 1, 3, none⟩ (.int .i64 r)).heap[w.heap.size + 1]? = some (.cells #[.int .i64 c, (.slice a5 n5 c5), .int .i64 p, .int .i64 r] 24)) :=
    heap_set4 ((heap_oI (by show w.heap.size ≠ _; omega)).trans hR) _ _ _ _
  have hBf : Hid (Below w.heap.size w (((((w1.setCell ⟨w.heap.size, 1, none⟩ (.slice a5 n5 c5)).setCell ⟨w.heap.size + 1, 0, none⟩ (.int .i64 c)).setCell ⟨w.heap.size + 1, 1, none⟩ (.slice a5 n5 c5)).setCell ⟨w.heap.size + 1, 2, none⟩ (.int .i64 p)).setCell ⟨w.heap.size + 1, 3, none⟩ (.int .i64 r))) :=
    ((((hBw.setCell (Nat.le_refl _) _).setCell (Nat.le_succ _) _).setCell (Nat.le_succ _) _).setCell (Nat.le_succ _) _).setCell (Nat.le_succ _) _
  have hnf : Hid (World.ownsRow (((((w1.setCell ⟨w.heap.size, 1, none⟩ (.slice a5 n5 c5)).setCell ⟨w.heap.size + 1, 0, none⟩ (.int .i64 c)).setCell ⟨w.heap.size + 1, 1, none⟩ (.slice a5 n5 c5)).setCell ⟨w.heap.size + 1, 2, none⟩ (.int .i64 p)).setCell ⟨w.heap.size + 1, 3, none⟩ (.int .i64 r)) w.heap.size 3 1 (.slice a5 n5 c5) (l.take 5).length ((l.take 5).map (Value.int .i64))) := by
    have hown2 := hown
    rcases hown2.2 with ⟨h1, h2⟩ | ⟨g, cap, cur, h1, h2, h3, h4, h5, h6, h7⟩
    · exact ⟨by simp, .inl ⟨h1, h2⟩⟩
    · rw [hs2.out] at h2
      have ho : ∀ (b : Nat) (v : Value) (j : Nat) (x : World), b ≠ g → (x.setCell ⟨b, j, none⟩ v).heap[g]? = x.heap[g]? := fun b v j x hb => heap_oI hb
      refine ⟨by simp, .inr ⟨g, cap, cur, h1, (by omega), ?_, h4, h5, h6, h7⟩⟩
      rw [ho _ _ _ _ (by omega), ho _ _ _ _ (by omega), ho _ _ _ _ (by omega), ho _ _ _ _ (by omega), ho _ _ _ _ (by omega)]
      exact h3
  clear hX0 hR0 hB hX hR hnv hBw hown hfew hs2 hB2
  obtain ⟨R, hRe⟩ : ∃ R, R = w.heap.size + 1 := ⟨_, rfl⟩
  obtain ⟨X, hXe⟩ : ∃ X, X = w.heap.size := ⟨_, rfl⟩
  have n1 : X ≠ R := by omega
  have n2 : R ≠ X := by omega
  rw [← hXe] at x0 x1 x2 x3 z0 z1 z2 z3
  rw [← hRe] at r0 r1 r2 r3 y0 y1 y2 y3
  rw [← hRe, ← hXe]
  replace hRe := hiddenI hRe
  replace hXe := hiddenI hXe
  go_wp2
  replace hfinH := hfinH.out
  replace hBf := hBf.out
  replace hnf := hnf.out
  rw [← hRe.out, ← hXe.out] at hfinH hBf hnf
  refine bodyPost_ret (results_cell_row rfl _ _ R _ _ _ _ rfl hfinH Try.underlying24 rfl (by kernel_rfl)) rfl ⟨.slice a5 n5 c5, rfl, ?_, ?_⟩
  · rw [← hXe.out]; exact hnf
  · rw [hXe.out] at hBf ⊢
    exact hBf
end Go.Proofs.Ytapdkdfgjjdbkaa
