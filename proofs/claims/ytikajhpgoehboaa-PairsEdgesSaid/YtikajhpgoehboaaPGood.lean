/-
  LINKS HELD AGAINST EACH OTHER: the reference's, by contract: where they are the same, it answers true.
-/
import Derived.Test.YtikajhpgoehboaaPEdge2
import Derived.StillTailTactics
namespace Go.Proofs.Ytikajhpgoehboaa
open Go.ChangeShapes Go.WideShapes Go.ChangeAt Go.RowKit

set_option maxHeartbeats 3200000 in
set_option maxRecDepth 100000 in
theorem lsameW_c (va vb : Value) (ps : List Lk) (w : World) (hva : HoldsR linkR w va ps) (hvb : HoldsR linkR w vb ps) (hx : ps.length ≤ 2000000) :
    Calls Try.prog 10 #[va, vb] w fun e w' => e = .returned (.bool true) ∧ Below w.heap.size w w' := by
  obtain ⟨a, cap, rfl, hra⟩ := hva
  obtain ⟨b, cap', rfl, hrb⟩ := hvb
  replace hra := hidden hra
  replace hrb := hidden hrb
  go_enter Try.func10, Try.ntmps10
  go_wp2
  go_loopw [5] (fun i wr => ∃ k : Nat, k ≤ ps.length ∧ i = .int .i64 k ∧ Hid (Below w.heap.size w wr))
    (fun i _ => ps.length - (intOf i).toNat)
  case atStart => exact ⟨0, Nat.zero_le _, rfl, Below.refl _ _⟩
  case round =>
    obtain ⟨k, hk, rfl, hnx⟩ := hrel
    by_cases hlt : k < ps.length
    · obtain ⟨b1, o1, rfl, hb1, c1, c2, c3, c4⟩ := link_at (hra.out.below hnx.out) hlt
      obtain ⟨b2, o2, rfl, hb2, d1, d2, d3, d4⟩ := link_at (hrb.out.below hnx.out) hlt
      have hj1 : (k : Int) < (ps.length : Int) := by omega
      generalize ps.getD k Lk.none = p at *
      obtain ⟨pa, pb, pc, pn⟩ := p
      simp only at c1 c2 c3 c4 d1 d2 d3 d4
      go_wp2
      go_quiet (fail)
      go_wp2
      go_roundw
      case rel => exact ⟨k + 1, by omega, by go_num, by first | exact hnx.out.drew | exact below_drewN hnx.out _ | exact hnx⟩
      case measure => simp [intOf]; omega
    · go_wp2
      go_ret
      exact ⟨rfl, hnx.out⟩
theorem lsame_c (va vb : Value) (ps : List Lk) (w : World) (hva : HoldsR linkR w va ps) (hvb : HoldsR linkR w vb ps) (hx : ps.length ≤ 1000) :
    Calls Try.prog 10 #[va, vb] w fun e w' => e = .returned (.bool true) ∧ Below w.heap.size w w' := lsameW_c va vb ps w hva hvb (by omega)
end Go.Proofs.Ytikajhpgoehboaa
/-
  GOOD LINKS: the program's, by contract: links in order whose numbers are within their bounds are good.
-/
namespace Go.Proofs.Ytikajhpgoehboaa
open Go.ChangeShapes Go.WideShapes Go.ChangeAt Go.RowKit

def cmpI (a b : Int) : Int := if a < b then -1 else if b < a then 1 else 0
theorem nani_c (a : Int) (w : World) : Calls Try.prog 60 #[.int .i64 a] w fun e w' => e = .returned (.bool false) ∧ w' = w := by
  go_enter Try.func60, Try.ntmps60
  go_wp2
  go_ret
  exact ⟨rfl, rfl⟩
theorem cmpi_c (a b : Int) (w : World) : Calls Try.prog 42 #[.int .i64 a, .int .i64 b] w fun e w' => e = .returned (.int .i64 (cmpI a b)) ∧ w' = w := by
  have h := fun a w => nani_c a w
  have key : (a < b ∧ Hid (cmpI a b = -1)) ∨ (¬ a < b ∧ b < a ∧ Hid (cmpI a b = 1)) ∨ (¬ a < b ∧ ¬ b < a ∧ Hid (cmpI a b = 0)) := by
    by_cases h1 : a < b
    · exact .inl ⟨h1, by show _ = _; simp [cmpI, h1]⟩
    · by_cases h2 : b < a
      · exact .inr (.inl ⟨h1, h2, by show _ = _; simp [cmpI, h1, h2]⟩)
      · exact .inr (.inr ⟨h1, h2, by show _ = _; simp [cmpI, h1, h2]⟩)
  rcases key with ⟨h1, e⟩ | ⟨h1, h2, e⟩ | ⟨h1, h2, e⟩ <;> rw [e.out] <;> clear e <;>
  · go_enter Try.func42, Try.ntmps42
    go_wp2_with fail
    refine (h a w).mono ?_
    rintro e w ⟨rfl, rfl⟩
    go_wp2_with fail
    refine (h b _).mono ?_
    rintro e w ⟨rfl, rfl⟩
    go_wp2
    go_ret
    exact ⟨rfl, rfl⟩
/-- The first that is not 0. -/
def or2 (x y : Int) : Int := if x = 0 then y else x
theorem or2_c (x y : Int) (b : Nat) (w : World) {t : TypeId} (hb : w.heap[b]? = some (.cells #[.int .i64 x, .int .i64 y] t)) :
    Calls Try.prog 41 #[.slice (some ⟨b, 0, none⟩) 2 2] w fun e w' => e = .returned (.int .i64 (or2 x y)) ∧ w' = w := by
  have h0 : w.cell? ⟨b, 0, none⟩ = some (.int .i64 x) := by simp [World.cell?, hb]
  have h1 : w.cell? ⟨b, 1, none⟩ = some (.int .i64 y) := by simp [World.cell?, hb]
  clear hb
  have key0 : x ≠ 0 → Hid (or2 x y = x) := fun h => by show _ = _; simp [or2, h]
  have key1 : x = 0 → Hid (or2 x y = y) := fun h => by show _ = _; simp [or2, h]
  generalize or2 x y = r at *
  go_enter Try.func41, Try.ntmps41
  go_wp2_with fail
  go_loop [8] (fun i => ∃ k : Nat, i = .int .i64 k ∧ k ≤ 2 ∧ Hid (0 < k → x = 0) ∧ Hid (1 < k → y = 0)) (fun i => 2 - (intOf i).toNat)
  case atStart => exact ⟨0, rfl, Nat.zero_le _, fun h => by omega, fun h => by omega⟩
  case round =>
    obtain ⟨k, rfl, hk, f0, f1⟩ := hrel
    rcases (by omega : k = 0 ∨ k = 1 ∨ k = 2) with rfl | rfl | rfl
    · by_cases hx : x = 0
      · clear key0 key1 f0 f1
        have hx' : Hid (x = 0) := hx
        subst hx
        go_wp2
        go_round
        case rel => exact ⟨1, rfl, by omega, fun _ => by first | rfl | trivial, fun h => by omega⟩
        case measure => simp [intOf]
      · have e := key0 hx
        clear key0 key1 f0 f1
        go_wp2
        go_ret
        exact ⟨by rw [e.out]; rfl, rfl⟩
    · have hx := f0.out (by omega)
      have e := key1 hx
      subst hx
      by_cases hy : y = 0
      · clear key0 key1 f0 f1 e
        subst hy
        go_wp2
        go_round
        case rel => exact ⟨2, rfl, by omega, fun _ => by first | rfl | trivial, fun _ => by first | rfl | trivial⟩
        case measure => simp [intOf]
      · clear key0 key1 f0 f1
        go_wp2
        go_ret
        exact ⟨by rw [e.out]; rfl, rfl⟩
    · have hx := f0.out (by omega)
      have hy := f1.out (by omega)
      have e := key1 hx
      rw [hy] at e
      clear key0 key1 f0 f1 hx hy
      go_wp2
      go_ret
      exact ⟨by rw [e.out]; rfl, rfl⟩
theorem still_tail2 {P : Program} {id : Nat} {Q : Exit → Act → World → Prop} {a : Act} {w : World} {l : List Oper} (n : Nat) (hm : P.follows .mixedOrders = true) (hB : Region.lexTailB .any l.toArray n = true) (w2 : World) (hw : w2 = w.drew)
    (h : wpStill P l.toArray w2 (fun a' => wpList P l.toArray Q (l.drop n) a' w2) (l.take n) a) : (Code.region id l.toArray true).wp P Q a w := by
  subst hw; exact wp_region_still_tail n hm hB h
/-- Two boxes, and a draw. -/
theorem boxes2 (w : World) (a b : Array Value) (t u : TypeId) : Below w.heap.size w ((w.alloc (.cells a t)).alloc (.cells b u)).drew ∧
    (∀ j x, a[j]? = some x → ((w.alloc (.cells a t)).alloc (.cells b u)).drew.cell? ⟨w.heap.size, j, none⟩ = some x) ∧
    (∀ j x, b[j]? = some x → ((w.alloc (.cells a t)).alloc (.cells b u)).drew.cell? ⟨w.heap.size + 1, j, none⟩ = some x) := by
  have e1 : ((w.alloc (.cells a t)).alloc (.cells b u)).drew.heap[w.heap.size]? = some (.cells a t) := by
    show ((w.heap.push (Obj.cells a t)).push (Obj.cells b u))[w.heap.size]? = _
    simp [Array.getElem?_push]
  have e2 : ((w.alloc (.cells a t)).alloc (.cells b u)).drew.heap[w.heap.size + 1]? = some (.cells b u) := by
    show ((w.heap.push (Obj.cells a t)).push (Obj.cells b u))[w.heap.size + 1]? = _
    rw [show w.heap.size + 1 = (w.heap.push (Obj.cells a t)).size by simp]
    exact Array.getElem?_push_size
  refine ⟨(((Below.refl _ _).alloc (Nat.le_refl _) _).alloc (by show _ ≤ (w.heap.push (Obj.cells a t)).size; simp) _).drew, fun j x h => ?_, fun j x h => ?_⟩
  · simp only [World.cell?, e1]; simpa using h
  · simp only [World.cell?, e2]; simpa using h
set_option maxHeartbeats 1600000 in
set_option maxRecDepth 1000000 in
theorem porder_c (x y : Lk) (w : World) : Calls Try.prog 25 #[.agg #[.int .i64 x.a, .int .i64 x.b, .int .i64 x.c, .int .u64 x.n], .agg #[.int .i64 y.a, .int .i64 y.b, .int .i64 y.c, .int .u64 y.n]] w fun e w' => e = .returned (.int .i64 (or2 (cmpI x.a y.a) (cmpI x.b y.b))) ∧ Below w.heap.size w w' := by
  obtain ⟨xa, xb, xc, xn⟩ := x
  obtain ⟨ya, yb, yc, yn⟩ := y
  simp only
  have hp := fun w => cmpi_c xa ya w
  have hq := fun w => cmpi_c xb yb w
  generalize cmpI xa ya = P at *
  generalize cmpI xb yb = Q at *
  have ho := fun b w t h => @or2_c P Q b w t h
  generalize or2 P Q = O at *
  obtain ⟨hB, hc1, hc2⟩ := boxes2 w #[.int .i64 xa, .int .i64 xb, .int .i64 xc, .int .u64 xn] #[.int .i64 ya, .int .i64 yb, .int .i64 yc, .int .u64 yn] 73 73
  obtain ⟨wd, hwd⟩ : ∃ wd, wd = ((w.alloc (.cells #[.int .i64 xa, .int .i64 xb, .int .i64 xc, .int .u64 xn] 73)).alloc (.cells #[.int .i64 ya, .int .i64 yb, .int .i64 yc, .int .u64 yn] 73)).drew := ⟨_, rfl⟩
  rw [← hwd] at hB hc1 hc2
  have f0 := hc1 0 _ rfl
  have f1 := hc1 1 _ rfl
  have g0 := hc2 0 _ rfl
  have g1 := hc2 1 _ rfl
  clear hc1 hc2
  replace hB := hidden hB
  replace hwd := hidden hwd
  go_enter Try.func25, Try.ntmps25
  go_wp2_with fail
  refine still_tail2 10 (by kernel_rfl) (by kernel_rfl) wd hwd.out ?_
  clear hwd
  simp only [List.take_succ_cons, List.take_zero, List.drop_succ_cons, List.drop_zero]
  repeat still_step
  still_call (hp _)
  repeat still_step
  still_call (hq _)
  refine wpStill_nil ?_
  clear hp hq f0 f1 g0 g1
  go_wp2_with fail
  refine (ho wd.heap.size _ _ (heap_alloc_new _ _)).mono ?_
  rintro e w4 ⟨rfl, rfl⟩
  go_wp2
  go_ret
  exact ⟨rfl, hB.out.alloc hB.out.size _⟩
theorem node_c (n : Int) (w : World) (h0 : 0 ≤ n) (h1 : n < 10000) : Calls Try.prog 24 #[.int .i64 n] w fun e w' => e = .returned (.bool true) ∧ w' = w := by
  go_enter Try.func24, Try.ntmps24
  go_wp2
  go_ret
  exact ⟨rfl, rfl⟩
/-- A link whose numbers are within their bounds. -/
structure Lk.fits (x : Lk) : Prop where
  a0 : 0 ≤ x.a
  a1 : x.a < 10000
  b0 : 0 ≤ x.b
  b1 : x.b < 10000
  c0 : 0 ≤ x.c
  n0 : 1 ≤ x.n
  n1 : x.n ≤ 4611686018427387904
def Lk.ahead (x y : Lk) : Prop := x.a < y.a ∨ (x.a = y.a ∧ x.b < y.b)
theorem Lk.ahead.ord {x y : Lk} (h : x.ahead y) : or2 (cmpI x.a y.a) (cmpI x.b y.b) = -1 := by
  rcases h with h | ⟨h1, h2⟩
  · simp [cmpI, h, or2]
  · simp [cmpI, h1, h2, or2]
set_option maxHeartbeats 3200000 in
set_option maxRecDepth 100000 in
theorem pgood_c (v : Value) (ps : List Lk) (w : World) (hv : HoldsR linkR w v ps) (hp : ps.length ≤ 2000000) (hf : ∀ p ∈ ps, p.fits) (hr : ps.Pairwise Lk.ahead) :
    Calls Try.prog 12 #[v] w fun e w' => e = .returned (.bool true) ∧ Below w.heap.size w w' := by
  obtain ⟨a, cap, rfl, hrow⟩ := hv
  replace hrow := hidden hrow
  have hff : Hid (∀ j, j < ps.length → (ps.getD j Lk.none).fits) := hidden fun j hj => hf _ (by rw [show ps.getD j Lk.none = ps[j] by simp [List.getD, hj]]; exact List.getElem_mem _)
  have hrr : Hid (∀ j, j + 1 < ps.length → (ps.getD j Lk.none).ahead (ps.getD (j + 1) Lk.none)) := hidden fun j hj => by
    rw [show ps.getD j Lk.none = ps[j] by simp [List.getD, show j < ps.length by omega], show ps.getD (j + 1) Lk.none = ps[j + 1] by simp [List.getD, hj]]
    exact List.pairwise_iff_getElem.1 hr j (j + 1) _ _ (by omega)
  clear hf hr
  go_enter Try.func12, Try.ntmps12
  go_wp2
  go_loopw [7] (fun i wr => ∃ k : Nat, k ≤ ps.length ∧ i = .int .i64 k ∧ Hid (Below w.heap.size w wr))
    (fun i _ => ps.length - (intOf i).toNat)
  case atStart => exact ⟨0, Nat.zero_le _, rfl, Below.refl _ _⟩
  case round =>
    obtain ⟨k, hk, rfl, hnx⟩ := hrel
    by_cases hlt : k < ps.length
    · obtain ⟨b, off, rfl, hb, c1, c2, c3, c4⟩ := link_at (hrow.out.below hnx.out) hlt
      have hj1 : (k : Int) < (ps.length : Int) := by omega
      have hfk := hff.out k hlt
      rcases Nat.eq_zero_or_pos k with rfl | hk0
      · generalize ps.getD 0 Lk.none = p at *
        obtain ⟨pa, pb, pc, pn⟩ := p
        obtain ⟨q1, q2, q3, q4, q5, q6, q7⟩ := hfk
        simp only [Nat.zero_mul, Nat.add_zero] at q1 q2 q3 q4 q5 q6 q7 c1 c2 c3 c4
        have n5 : ¬ pc < 0 := by omega
        have n6 : ¬ pn < 1 := by omega
        have n7 : ¬ 4611686018427387904 < pn := by omega
        have hX := hidden (heap_alloc_new wr (.cells #[.int .i64 pa, .int .i64 pb, .int .i64 pc, .int .u64 pn] 73))
        obtain ⟨⟨b0, b1, b2, b3⟩, -⟩ := box4fL hX.out
        have hBA : Hid (Below w.heap.size w (wr.alloc (.cells #[.int .i64 pa, .int .i64 pb, .int .i64 pc, .int .u64 pn] 73))) := hnx.out.alloc hnx.out.size _
        clear q5 q6 q7
        go_wp2_with (go_at_call 24; refine (node_c _ _ (by assumption) (by assumption)).mono ?_; rintro e z ⟨rfl, rfl⟩)
        clear q1 q2 q3 q4
        go_wp2
        go_quiet (fail)
        go_wp2
        go_roundw
        case rel => exact ⟨1, by omega, by go_num, by first | exact hBA.out.drew | exact below_drewN hBA.out _ | exact hBA⟩
        case measure => simp [intOf]; omega
      · obtain ⟨m, rfl⟩ : ∃ m, k = m + 1 := ⟨k - 1, by omega⟩
        obtain ⟨b', off', heq, hb', d1, d2, d3, d4⟩ := link_at (hrow.out.below hnx.out) (k := m) (by omega)
        cases heq
        have hah := hrr.out m hlt
        generalize ps.getD (m + 1) Lk.none = p at *
        generalize ps.getD m Lk.none = q at *
        have hord := fun z => porder_c q p z
        rw [hah.ord] at hord
        clear hah
        obtain ⟨pa, pb, pc, pn⟩ := p
        obtain ⟨qa, qb, qc, qn⟩ := q
        obtain ⟨q1, q2, q3, q4, q5, q6, q7⟩ := hfk
        simp only at q1 q2 q3 q4 q5 q6 q7 c1 c2 c3 c4 d1 d2 d3 d4 hord
        have n5 : ¬ pc < 0 := by omega
        have n6 : ¬ pn < 1 := by omega
        have n7 : ¬ 4611686018427387904 < pn := by omega
        have n8 : IntKind.i64.wrap (((m + 1 : Nat) : Int) - 1) = (m : Int) := by rw [IntKind.wrap_i64]; omega
        have n11 : IntKind.i64.wrap (m : Int) = (m : Int) := by rw [IntKind.wrap_i64]; omega
        have hj2 : (m : Int) < (ps.length : Int) := by omega
        have n9 : (0 : Int) < ((m + 1 : Nat) : Int) := by omega
        have n10 : (m : Int) + 1 < (ps.length : Int) := by omega
        have hX := hidden (heap_alloc_new wr (.cells #[.int .i64 pa, .int .i64 pb, .int .i64 pc, .int .u64 pn] 73))
        obtain ⟨⟨b0, b1, b2, b3⟩, -⟩ := box4fL hX.out
        have hBA : Hid (Below w.heap.size w (wr.alloc (.cells #[.int .i64 pa, .int .i64 pb, .int .i64 pc, .int .u64 pn] 73))) := hnx.out.alloc hnx.out.size _
        clear q5 q6 q7
        go_wp2_with (go_at_call 24; refine (node_c _ _ (by assumption) (by assumption)).mono ?_; rintro e z ⟨rfl, rfl⟩)
        clear q1 q2 q3 q4
        go_wp2_with fail
        go_region_with (first | (go_at_call 25; refine (hord _).mono ?_; rintro e w1 ⟨rfl, hB1⟩; have kk := hidden hB1))
        all_goals
          have hBL := hidden (hBA.out.drew.trans (kk.out.mono hBA.out.drew.size))
          clear kk hBA hord b0 b1 b2 b3 d1 d2 d3 d4 c1 c2 c3 c4 hX hnx
          go_wp2
          go_roundw
          case rel => exact ⟨m + 1 + 1, by omega, by go_num, hBL⟩
          case measure => simp [intOf]; omega
    · obtain rfl : k = ps.length := by omega
      go_wp2
      go_ret
      exact ⟨rfl, hnx.out⟩
end Go.Proofs.Ytikajhpgoehboaa
