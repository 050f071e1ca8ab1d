/-
  WHETHER AN ITEM OF A HEAP STANDS AHEAD OF THE ONE AT HALF ITS PLACE, by contract.
-/
import Derived.Test.YtapdkdfgjjdbkaaHApp
import Derived.Test.YtapdkdfgjjdbkaaIRSame
namespace Go.Proofs.Ytapdkdfgjjdbkaa
open Go.ChangeShapes Go.WideShapes Go.ChangeAt Go.RowKit

/-- The cells that are looked at. -/
def risen (bi bh b g i p n cap : Nat) (x y : Pr) : List (Addr × Value) :=
  [(⟨bi, 0, none⟩, .int .i64 i), (⟨bh, 0, none⟩, .pointer (some ⟨b, 0, none⟩)), (⟨b, 0, none⟩, .slice (some ⟨g, 0, none⟩) n cap)] ++ eight g (i * 4) g (p * 4) x.1 y.1 x.2 y.2
set_option maxHeartbeats 1600000 in
set_option maxRecDepth 1000000 in
theorem rise_c (bi bh b g cap i n : Nat) (x y : Pr) (w : World) (hi : w.cell? ⟨bi, 0, none⟩ = some (.int .i64 i)) (hh : w.cell? ⟨bh, 0, none⟩ = some (.pointer (some ⟨b, 0, none⟩))) (hc : w.cell? ⟨b, 0, none⟩ = some (.slice (some ⟨g, 0, none⟩) n cap)) (hin : i < n) (hn : n ≤ 1000000) (h0 : 0 < i)
    (p0 : w.cell? ⟨g, i * 4, none⟩ = some (.int .i64 x.1.c)) (p1 : w.cell? ⟨g, i * 4 + 1, none⟩ = some x.2) (p2 : w.cell? ⟨g, i * 4 + 2, none⟩ = some (.int .i64 x.1.p)) (p3 : w.cell? ⟨g, i * 4 + 3, none⟩ = some (.int .i64 x.1.r))
    (q0 : w.cell? ⟨g, (i - 1) / 2 * 4, none⟩ = some (.int .i64 y.1.c)) (q1 : w.cell? ⟨g, (i - 1) / 2 * 4 + 1, none⟩ = some y.2) (q2 : w.cell? ⟨g, (i - 1) / 2 * 4 + 2, none⟩ = some (.int .i64 y.1.p)) (q3 : w.cell? ⟨g, (i - 1) / 2 * 4 + 3, none⟩ = some (.int .i64 y.1.r))
    (hx : Holds w x.2 (x.1.l.map (Value.int .i64))) (hy : Holds w y.2 (y.1.l.map (Value.int .i64))) (hxl : x.1.l.length ≤ 17592186044416) (hyl : y.1.l.length ≤ 17592186044416) :
    Calls Try.prog 24 #[.pointer (some ⟨bi, 0, none⟩), .pointer (some ⟨bh, 0, none⟩)] w fun e w' => e = .returned (.bool (decide (icmp x.1 y.1 < 0))) ∧ Below w.heap.size w w' := by
  have hk : Keeps w (risen bi bh b g i ((i - 1) / 2) n cap x y) w.drew := by
    refine Keeps.drew ⟨Below.refl _ _, fun p hp => ?_⟩
    simp only [risen, eight, List.cons_append, List.nil_append, List.mem_cons, List.not_mem_nil, or_false] at hp
    rcases hp with rfl | rfl | rfl | rfl | rfl | rfl | rfl | rfl | rfl | rfl | rfl <;> assumption
  have hcall : ∀ z : In (Keeps w (risen bi bh b g i ((i - 1) / 2) n cap x y)), Calls Try.prog 22 #[itV x.1 x.2, itV y.1 y.2] z.w fun e w'' => e = .returned (.int .i64 (icmp x.1 y.1)) ∧ ∃ u : In (Keeps w (risen bi bh b g i ((i - 1) / 2) n cap x y)), w'' = u.w :=
    fun z => later_of ((horder_c x.1 y.1 x.2 y.2 z.w (hx.below z.h.1) (hy.below z.h.1) hxl hyl).mono fun _ _ ⟨he, hb⟩ => ⟨he, z.h.below hb⟩)
  have hq : IntKind.i64.wrap (Int.tdiv ((i : Int) - 1) 2) = (((i - 1) / 2 : Nat) : Int) := by
    rw [show ((i : Int) - 1) = ((i - 1 : Nat) : Int) by omega]
    rw [show (2 : Int) = ((2 : Nat) : Int) by rfl, ← Int.ofNat_tdiv]
    rw [IntKind.wrap_i64]; omega
  generalize icmp x.1 y.1 = c at *
  generalize hm : (i - 1) / 2 = m at *
  have hm' : (m : Int) < n := by omega
  have hi' : (i : Int) < n := by omega
  have hi0 : (0 : Int) < i := by omega
  have hm0 : (0 : Int) ≤ m := by omega
  obtain ⟨⟨xc, xl, xp, xr⟩, xv⟩ := x
  obtain ⟨⟨yc, yl, yp, yr⟩, yv⟩ := y
  simp only [itV] at hcall
  clear hx hy hxl hyl p0 p1 p2 p3 q0 q1 q2 q3
  have f0 : ∀ z : In (Keeps w (risen bi bh b g i m n cap (⟨xc, xl, xp, xr⟩, xv) (⟨yc, yl, yp, yr⟩, yv))), _ := Keeps.at 0 rfl
  have f1 : ∀ z : In (Keeps w (risen bi bh b g i m n cap (⟨xc, xl, xp, xr⟩, xv) (⟨yc, yl, yp, yr⟩, yv))), _ := Keeps.at 1 rfl
  have f2 : ∀ z : In (Keeps w (risen bi bh b g i m n cap (⟨xc, xl, xp, xr⟩, xv) (⟨yc, yl, yp, yr⟩, yv))), _ := Keeps.at 2 rfl
  have f3 : ∀ z : In (Keeps w (risen bi bh b g i m n cap (⟨xc, xl, xp, xr⟩, xv) (⟨yc, yl, yp, yr⟩, yv))), _ := Keeps.at 3 rfl
  have f4 : ∀ z : In (Keeps w (risen bi bh b g i m n cap (⟨xc, xl, xp, xr⟩, xv) (⟨yc, yl, yp, yr⟩, yv))), _ := Keeps.at 4 rfl
  have f5 : ∀ z : In (Keeps w (risen bi bh b g i m n cap (⟨xc, xl, xp, xr⟩, xv) (⟨yc, yl, yp, yr⟩, yv))), _ := Keeps.at 5 rfl
  have f6 : ∀ z : In (Keeps w (risen bi bh b g i m n cap (⟨xc, xl, xp, xr⟩, xv) (⟨yc, yl, yp, yr⟩, yv))), _ := Keeps.at 6 rfl
  have f7 : ∀ z : In (Keeps w (risen bi bh b g i m n cap (⟨xc, xl, xp, xr⟩, xv) (⟨yc, yl, yp, yr⟩, yv))), _ := Keeps.at 7 rfl
  have f8 : ∀ z : In (Keeps w (risen bi bh b g i m n cap (⟨xc, xl, xp, xr⟩, xv) (⟨yc, yl, yp, yr⟩, yv))), _ := Keeps.at 8 rfl
  have f9 : ∀ z : In (Keeps w (risen bi bh b g i m n cap (⟨xc, xl, xp, xr⟩, xv) (⟨yc, yl, yp, yr⟩, yv))), _ := Keeps.at 9 rfl
  have f10 : ∀ z : In (Keeps w (risen bi bh b g i m n cap (⟨xc, xl, xp, xr⟩, xv) (⟨yc, yl, yp, yr⟩, yv))), _ := Keeps.at 10 rfl
  dsimp only at f0 f1 f2 f3 f4 f5 f6 f7 f8 f9 f10
  generalize risen bi bh b g i m n cap (⟨xc, xl, xp, xr⟩, xv) (⟨yc, yl, yp, yr⟩, yv) = F at *
  go_enter Try.func24, Try.ntmps24
  go_wp2_with fail
  refine wp_region_later (Keeps w F) (by kernel_rfl) (by kernel_rfl) hk (fun hne => ?_)
  repeat (go_big_quiet_step (exact hcall _))
  refine wpQuiet_nil ?_
  intro wL hL
  have hB := hiddenI hL.1
  clear f0 f1 f2 f3 f4 f5 f6 f7 f8 f9 f10 hk hcall hL
  go_wp2
  go_ret
  exact ⟨rfl, hB.out⟩
set_option maxHeartbeats 1600000 in
set_option maxRecDepth 1000000 in
theorem rise0_c (bi bh : Nat) (w : World) (hi : w.cell? ⟨bi, 0, none⟩ = some (.int .i64 ((0 : Nat) : Int))) :
    Calls Try.prog 24 #[.pointer (some ⟨bi, 0, none⟩), .pointer (some ⟨bh, 0, none⟩)] w fun e w' => e = .returned (.bool false) ∧ Below w.heap.size w w' := by
  have hk : Keeps w [(⟨bi, 0, none⟩, .int .i64 ((0 : Nat) : Int))] w.drew := by
    refine Keeps.drew ⟨Below.refl _ _, fun p hp => ?_⟩
    simp only [List.mem_cons, List.not_mem_nil, or_false] at hp
    rcases hp with rfl
    exact hi
  have f0 : ∀ z : In (Keeps w [(⟨bi, 0, none⟩, .int .i64 ((0 : Nat) : Int))]), _ := Keeps.at 0 rfl
  dsimp only at f0
  generalize ([(⟨bi, 0, none⟩, .int .i64 ((0 : Nat) : Int))] : List (Addr × Value)) = F at *
  have hlt : ¬ ((0 : Nat) : Int) > 0 := by omega
  go_enter Try.func24, Try.ntmps24
  go_wp2_with fail
  refine wp_region_later (Keeps w F) (by kernel_rfl) (by kernel_rfl) hk (fun hne => ?_)
  repeat (go_big_quiet_step (fail))
  refine wpQuiet_nil ?_
  intro wL hL
  have hB := hiddenI hL.1
  clear f0 hk hL
  go_wp2
  go_ret
  exact ⟨rfl, hB.out⟩
/-- Whether the item at k rises. -/
theorem riseH_c {B b g cap k bi bh : Nat} {L : List Pr} (w : World) (h : HeapL B w b g cap L) (hi : w.cell? ⟨bi, 0, none⟩ = some (.int .i64 k)) (hh : w.cell? ⟨bh, 0, none⟩ = some (.pointer (some ⟨b, 0, none⟩))) (hk : k < L.length) (hn : L.length ≤ 1000000) (hl : ∀ p ∈ L, p.1.l.length ≤ 1000) :
    Calls Try.prog 24 #[.pointer (some ⟨bi, 0, none⟩), .pointer (some ⟨bh, 0, none⟩)] w fun e w' => e = .returned (.bool (decide (0 < k ∧ icmp (itF L k) (itF L ((k - 1) / 2)) < 0))) ∧ Below w.heap.size w w' := by
  by_cases h0 : 0 < k
  · have hp : (k - 1) / 2 < L.length := by omega
    obtain ⟨p0, p1, p2, p3⟩ := h.at4 hk
    obtain ⟨q0, q1, q2, q3⟩ := h.at4 hp
    have e : decide (0 < k ∧ icmp (itF L k) (itF L ((k - 1) / 2)) < 0) = decide (icmp (itF L k) (itF L ((k - 1) / 2)) < 0) := by simp [h0]
    rw [e]
    have o1 := h.its _ (getD_mem hk)
    have o2 := h.its _ (getD_mem hp)
    exact rise_c bi bh b g cap k L.length _ _ w hi hh h.cell hk hn h0 p0 p1 p2 p3 q0 q1 q2 q3 (holds_of_owns o1) (holds_of_owns o2) (by have := hl _ (getD_mem hk); omega) (by have := hl _ (getD_mem hp); omega)
  · obtain rfl : k = 0 := by omega
    have e : decide (0 < 0 ∧ icmp (itF L 0) (itF L ((0 - 1) / 2)) < 0) = false := by simp
    rw [e]
    exact rise0_c bi bh w hi
end Go.Proofs.Ytapdkdfgjjdbkaa
