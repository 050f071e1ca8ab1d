/-
  ROWS OF ITEMS HELD AGAINST EACH OTHER: the reference's, by contract.
-/
import Derived.Test.YthjmgahgfkecfacIROrder
import Derived.Test.YthjmgahgfkecfacOpenIL
import Derived.Test.YthjmgahgfkecfacLater
namespace Go.Proofs.Ythjmgahgfkecfac
open Go.ChangeShapes Go.WideShapes Go.ChangeAt Go.RowKit

/-- Two rows of items are of one order, one by one. -/
def isame (xs ys : List It) : Bool := decide (xs.length = ys.length) && (List.range xs.length).all fun k => icmp (xs.getD k It.none) (ys.getD k It.none) == 0
theorem isame_len {xs ys : List It} (h : xs.length ≠ ys.length) : isame xs ys = false := by simp [isame, h]
theorem isame_all {xs ys : List It} (h : xs.length = ys.length) (ha : ∀ k, k < xs.length → icmp (xs.getD k It.none) (ys.getD k It.none) = 0) : isame xs ys = true := by
  unfold isame
  rw [Bool.and_eq_true]
  exact ⟨decide_eq_true h, List.all_eq_true.2 fun k hk => beq_iff_eq.2 (ha k (List.mem_range.1 hk))⟩
theorem isame_not {xs ys : List It} (k : Nat) (hk : k < xs.length) (h : icmp (xs.getD k It.none) (ys.getD k It.none) ≠ 0) : isame xs ys = false := by
  cases e : isame xs ys with
  | false => rfl
  | true =>
    unfold isame at e
    rw [Bool.and_eq_true] at e
    exact absurd (beq_iff_eq.1 (List.all_eq_true.1 e.2 k (List.mem_range.2 hk))) h
/-- The cells of two items. -/
def eight (b1 o1 b2 o2 : Nat) (x y : It) (nx ny : Value) : List (Addr × Value) :=
  [(⟨b1, o1, none⟩, .int .i64 x.c), (⟨b1, o1 + 1, none⟩, nx), (⟨b1, o1 + 2, none⟩, .int .i64 x.p), (⟨b1, o1 + 3, none⟩, .int .i64 x.r),
   (⟨b2, o2, none⟩, .int .i64 y.c), (⟨b2, o2 + 1, none⟩, ny), (⟨b2, o2 + 2, none⟩, .int .i64 y.p), (⟨b2, o2 + 3, none⟩, .int .i64 y.r)]
theorem its_at {w : World} {a : Option Addr} {ys : List It} (h : ys = [] ∨ ∃ b off, a = some ⟨b, off, none⟩ ∧ b < w.heap.size ∧ ∀ j, j < ys.length → ∃ nv, ItAt w b (off + j * 4) (ys.getD j It.none) nv) {k : Nat} (hk : k < ys.length) :
    ∃ b off nv, a = some ⟨b, off, none⟩ ∧ ItAt w b (off + k * 4) (ys.getD k It.none) nv := by
  rcases h with rfl | ⟨b, off, h1, _, h3⟩
  · exact absurd hk (by simp)
  · obtain ⟨nv, h⟩ := h3 k hk
    exact ⟨b, off, nv, h1, h⟩
set_option maxHeartbeats 1600000 in
set_option maxRecDepth 1000000 in
theorem rsame_c (va vb : Value) (xs ys : List It) (w : World) (hva : HoldsIL w va xs) (hvb : HoldsIL w vb ys) (hx : xs.length ≤ 17592186044416) (_hy : ys.length ≤ 17592186044416)
    (hxl : ∀ k, k < xs.length → (xs.getD k It.none).l.length ≤ 17592186044416) (hyl : ∀ k, k < ys.length → (ys.getD k It.none).l.length ≤ 17592186044416) :
    Calls Try.prog 9 #[va, vb] w fun e w' => e = .returned (.bool (isame xs ys)) ∧ Below w.heap.size w w' := by
  obtain ⟨a, cap, rfl, hra⟩ := hva
  obtain ⟨b, cap', rfl, hrb⟩ := hvb
  replace hxl := hiddenI hxl
  replace hyl := hiddenI hyl
  by_cases hl : xs.length = ys.length
  · go_enter Try.func9, Try.ntmps9
    go_wp2
    go_loopw [5] (fun i wr => ∃ k : Nat, k ≤ xs.length ∧ i = .int .i64 k ∧ Hid (∀ j, j < k → icmp (xs.getD j It.none) (ys.getD j It.none) = 0) ∧ Hid (Below w.heap.size w wr))
      (fun i _ => xs.length - (intOf i).toNat)
    case atStart => exact ⟨0, Nat.zero_le _, rfl, fun j hj => by omega, Below.refl _ _⟩
    case round =>
      obtain ⟨k, hk, rfl, ht, hnx⟩ := hrel
      by_cases hlt : k < xs.length
      · have hlt2 : k < ys.length := by omega
        obtain ⟨b1, o1, n1, rfl, hi1⟩ := its_at hra hlt
        obtain ⟨b2, o2, n2, rfl, hi2⟩ := its_at hrb hlt2
        have hi1 := hi1.below hnx.out
        have hi2 := hi2.below hnx.out
        have hxk := hxl.out k hlt
        have hyk := hyl.out k hlt2
        have hno := hiddenI fun h => isame_not (xs := xs) (ys := ys) k hlt h
        have hok : Hid (icmp (xs.getD k It.none) (ys.getD k It.none) = 0 → ∀ j, j < k + 1 → icmp (xs.getD j It.none) (ys.getD j It.none) = 0) := fun h j hj => by
          rcases Nat.lt_or_ge j k with h2 | h2
          · exact ht.out j h2
          · obtain rfl : j = k := by omega
            exact h
        generalize xs.getD k It.none = x at *
        generalize ys.getD k It.none = y at *
        obtain ⟨c0, c1, c2, c3, hn1⟩ := hi1
        obtain ⟨d0, d1, d2, d3, hn2⟩ := hi2
        have hk : Keeps wr (eight b1 (o1 + k * 4) b2 (o2 + k * 4) x y n1 n2) wr.drew := by
          refine Keeps.drew ⟨Below.refl _ _, fun p hp => ?_⟩
          simp only [eight, List.mem_cons, List.not_mem_nil, or_false] at hp
          rcases hp with rfl | rfl | rfl | rfl | rfl | rfl | rfl | rfl <;> assumption
        have hcall : ∀ z : In (Keeps wr (eight b1 (o1 + k * 4) b2 (o2 + k * 4) x y n1 n2)), Calls Try.prog 7 #[itV x n1, itV y n2] z.w fun e w'' => e = .returned (.int .i64 (icmp x y)) ∧ ∃ u : In (Keeps wr (eight b1 (o1 + k * 4) b2 (o2 + k * 4) x y n1 n2)), w'' = u.w :=
          fun z => later_of ((rorder_c x y n1 n2 z.w (hn1.below z.h.1) (hn2.below z.h.1) hxk hyk).mono fun _ _ ⟨he, hb⟩ => ⟨he, z.h.below hb⟩)
        generalize icmp x y = c at *
        simp only [itV] at hcall
        clear c0 c1 c2 c3 d0 d1 d2 d3 hn1 hn2 hxk hyk hra hrb
        have f0 : ∀ z : In (Keeps wr (eight b1 (o1 + k * 4) b2 (o2 + k * 4) x y n1 n2)), _ := Keeps.at 0 rfl
        have f1 : ∀ z : In (Keeps wr (eight b1 (o1 + k * 4) b2 (o2 + k * 4) x y n1 n2)), _ := Keeps.at 1 rfl
        have f2 : ∀ z : In (Keeps wr (eight b1 (o1 + k * 4) b2 (o2 + k * 4) x y n1 n2)), _ := Keeps.at 2 rfl
        have f3 : ∀ z : In (Keeps wr (eight b1 (o1 + k * 4) b2 (o2 + k * 4) x y n1 n2)), _ := Keeps.at 3 rfl
        have f4 : ∀ z : In (Keeps wr (eight b1 (o1 + k * 4) b2 (o2 + k * 4) x y n1 n2)), _ := Keeps.at 4 rfl
        have f5 : ∀ z : In (Keeps wr (eight b1 (o1 + k * 4) b2 (o2 + k * 4) x y n1 n2)), _ := Keeps.at 5 rfl
        have f6 : ∀ z : In (Keeps wr (eight b1 (o1 + k * 4) b2 (o2 + k * 4) x y n1 n2)), _ := Keeps.at 6 rfl
        have f7 : ∀ z : In (Keeps wr (eight b1 (o1 + k * 4) b2 (o2 + k * 4) x y n1 n2)), _ := Keeps.at 7 rfl
        dsimp only at f0 f1 f2 f3 f4 f5 f6 f7
        have hj1 : (k : Int) < (xs.length : Int) := by omega
        have hj2 : (k : Int) < (ys.length : Int) := by omega
        go_wp2_with fail
        refine wp_region_later (Keeps wr (eight b1 (o1 + k * 4) b2 (o2 + k * 4) x y n1 n2)) (by kernel_rfl) (by kernel_rfl) hk (fun hne => ?_)
        repeat (go_big_quiet_step (exact hcall _))
        refine wpQuiet_nil ?_
        intro wL hL
        clear f0 f1 f2 f3 f4 f5 f6 f7 hk hcall
        have hBL : Hid (Below w.heap.size w wL) := hnx.out.trans (hL.1.mono hnx.out.size)
        clear hL
        by_cases hc0 : c = 0
        · have hok2 := hiddenI (hok.out hc0)
          subst hc0
          go_wp2
          go_roundw
          case rel => exact ⟨k + 1, by omega, by go_num, hok2, hBL⟩
          case measure => simp [intOf]; omega
        · have hno2 := hiddenI (hno.out hc0)
          go_wp2
          go_ret
          exact ⟨by rw [hno2.out]; first | done | rfl, hBL.out⟩
      · have hall := hiddenI (isame_all hl fun j hj => ht.out j (by omega))
        clear ht
        go_wp2
        go_ret
        exact ⟨by rw [hall.out]; first | done | rfl, hnx.out⟩
  · have e := hiddenI (isame_len hl)
    have hl' : ((xs.length : Int) == (ys.length : Int)) = false := by simp; omega
    go_enter Try.func9, Try.ntmps9
    go_wp2
    go_ret
    exact ⟨by rw [e.out]; first | done | rfl, Below.refl _ _⟩
end Go.Proofs.Ythjmgahgfkecfac
