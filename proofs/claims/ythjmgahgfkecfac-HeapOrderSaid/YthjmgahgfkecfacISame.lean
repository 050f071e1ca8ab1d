/-
  ROWS OF ITEMS HELD AGAINST EACH OTHER: the program's, by contract.
-/
import Derived.Test.YthjmgahgfkecfacIRSame
namespace Go.Proofs.Ythjmgahgfkecfac
open Go.ChangeShapes Go.WideShapes Go.ChangeAt Go.RowKit

set_option maxHeartbeats 1600000 in
set_option maxRecDepth 1000000 in
theorem hsame1_c (x y : It) (nx ny : Value) (w : World) (hx : Holds w nx (x.l.map (Value.int .i64))) (hy : Holds w ny (y.l.map (Value.int .i64))) (hxl : x.l.length ≤ 17592186044416) (hyl : y.l.length ≤ 17592186044416) :
    Calls Try.prog 17 #[itV x nx, itV y ny] w fun e w' => e = .returned (.bool (icmp x y == 0)) ∧ Below w.heap.size w w' := by
  obtain ⟨hA, hA', hB⟩ := heap2b w (.cells #[.int .i64 x.c, nx, .int .i64 x.p, .int .i64 x.r] 24) (.cells #[.int .i64 y.c, ny, .int .i64 y.p, .int .i64 y.r] 24)
  have hcall := horder_c x y nx ny _ (hx.below hB) (hy.below hB) hxl hyl
  have hB : Hid _ := hB
  simp only [itV] at hcall ⊢
  generalize icmp x y = c at *
  clear hA hA' hx hy hxl hyl
  go_enter Try.func17, Try.ntmps17
  go_wp2_with fail
  refine hcall.mono ?_
  rintro e w1 ⟨rfl, hB1⟩
  go_wp2
  go_ret
  exact ⟨by first | rfl | simp, hB.out.trans (hB1.mono hB.out.size)⟩
set_option maxHeartbeats 1600000 in
set_option maxRecDepth 1000000 in
theorem hsame_c (va vb : Value) (xs ys : List It) (w : World) (hva : HoldsIL w va xs) (hvb : HoldsIL w vb ys) (hx : xs.length ≤ 17592186044416) (_hy : ys.length ≤ 17592186044416)
    (hxl : ∀ k, k < xs.length → (xs.getD k It.none).l.length ≤ 17592186044416) (hyl : ∀ k, k < ys.length → (ys.getD k It.none).l.length ≤ 17592186044416) :
    Calls Try.prog 16 #[va, vb, .func (.func 17) #[] #[]] w fun e w' => e = .returned (.bool (isame xs ys)) ∧ Below w.heap.size w w' := by
  obtain ⟨a, cap, rfl, hra⟩ := hva
  obtain ⟨b, cap', rfl, hrb⟩ := hvb
  replace hxl := hiddenI hxl
  replace hyl := hiddenI hyl
  by_cases hl : xs.length = ys.length
  · have hl1 : ((xs.length : Int) == (ys.length : Int)) = true := by simp [hl]
    replace hl := hiddenI hl
    go_enter Try.func16, Try.ntmps16
    go_wp2
    go_loopw [17] (fun i wr => ∃ k : Nat, k ≤ xs.length ∧ i = .int .i64 k ∧ Hid (∀ j, j < k → icmp (xs.getD j It.none) (ys.getD j It.none) = 0) ∧ Hid (Below w.heap.size w wr))
      (fun i _ => xs.length - (intOf i).toNat)
    case atStart => exact ⟨0, Nat.zero_le _, rfl, fun j hj => by omega, Below.refl _ _⟩
    case round =>
      clear hl1
      rename_i h0 K0 a0
      clear h0
      obtain ⟨k, hk, rfl, ht, hnx⟩ := hrel
      by_cases hlt : k < xs.length
      · have hlt2 : k < ys.length := by have := hl.out; omega
        obtain ⟨b1, o1, n1, rfl, hi1⟩ := its_at hra hlt
        obtain ⟨b2, o2, n2, rfl, hi2⟩ := its_at hrb hlt2
        have hi1 := hi1.below hnx.out
        have hi2 := hi2.below hnx.out
        have hxk := hxl.out k hlt
        have hyk := hyl.out k hlt2
        have hno := hiddenI fun h => isame_not (xs := xs) (ys := ys) k hlt h
        have hok : Hid (icmp (xs.getD k It.none) (ys.getD k It.none) = 0 → ∀ j, j < k + 1 → icmp (xs.getD j It.none) (ys.getD j It.none) = 0) := fun h j hj => by
          rcases Nat.lt_or_ge j k with h2 | h2
          · exact ht.out j h2
          · obtain rfl : j = k := by omega
            exact h
        generalize xs.getD k It.none = x at *
        generalize ys.getD k It.none = y at *
        obtain ⟨c0, c1, c2, c3, hn1⟩ := hi1
        obtain ⟨d0, d1, d2, d3, hn2⟩ := hi2
        have hcall : ∀ z : World, Below wr.heap.size wr z → Calls Try.prog 17 #[itV x n1, itV y n2] z fun e w'' => e = .returned (.bool (icmp x y == 0)) ∧ Below z.heap.size z w'' :=
          fun z h => hsame1_c x y n1 n2 z (hn1.below h) (hn2.below h) hxk hyk
        generalize icmp x y = c at *
        simp only [itV] at hcall
        obtain ⟨a5, k5, rfl, -⟩ := hn1
        obtain ⟨a6, k6, rfl, -⟩ := hn2
        generalize (x.l.map (Value.int .i64)).length = m5 at *
        generalize (y.l.map (Value.int .i64)).length = m6 at *
        clear hxk hyk hra hrb
        have hj1 : (k : Int) < (xs.length : Int) := by omega
        have hj2 : (k : Int) < (ys.length : Int) := by omega
        have l1 := World.block_lt_of_cell? _ _ c0
        have l2 := World.block_lt_of_cell? _ _ d0
        go_wp2_with fail
        refine (hcall _ ?hB).mono ?_
        case hB => exact (heap2b wr _ _).2.2
        rintro e w1 ⟨rfl, hB1⟩
        have hBL : Hid (Below w.heap.size w w1) := hnx.out.trans (((heap2b wr _ _).2.2.trans (hB1.mono (heap2b wr _ _).2.2.size)).mono hnx.out.size)
        clear hB1 hcall c0 c1 c2 c3 d0 d1 d2 d3
        by_cases hc0 : c = 0
        · have hok2 := hiddenI (hok.out hc0)
          have hc1 : (c == 0) = true := by simp [hc0]
          clear hok hno hc0
          go_wp2
          go_roundw
          case rel => exact ⟨k + 1, by omega, by go_num, hok2, hBL⟩
          case measure => simp [intOf]; omega
        · have hno2 := hiddenI (hno.out hc0)
          have hc1 : (c == 0) = false := by simp [hc0]
          clear hok hno hc0
          go_wp2
          go_ret
          exact ⟨by rw [hno2.out]; first | done | rfl, hBL.out⟩
      · have hall := hiddenI (isame_all hl.out fun j hj => ht.out j (by omega))
        clear ht
        go_wp2
        go_ret
        exact ⟨by rw [hall.out]; first | done | rfl, hnx.out⟩
  · have e := hiddenI (isame_len hl)
    have hl' : ((xs.length : Int) == (ys.length : Int)) = false := by simp; omega
    go_enter Try.func16, Try.ntmps16
    go_wp2
    go_ret
    exact ⟨by rw [e.out]; first | done | rfl, Below.refl _ _⟩
end Go.Proofs.Ythjmgahgfkecfac
