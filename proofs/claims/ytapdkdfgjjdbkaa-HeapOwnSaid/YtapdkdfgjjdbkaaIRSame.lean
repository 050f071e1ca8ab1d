/-
  A REGION THAT DRAWS ITS ORDER, WHOSE OPERATIONS READ AND WHOSE CALLEES MAKE MEMORY BUT WRITE NONE THAT WAS THERE: one walk. No function is named here.
-/
import Derived.Test.YtapdkdfgjjdbkaaSl
import Derived.Deep.QuietTactic
import Derived.BigQuiet
import Derived.Test.YtapdkdfgjjdbkaaIOrd
import Derived.Test.YtapdkdfgjjdbkaaItems
namespace Go.Proofs.Ytapdkdfgjjdbkaa
open Go.ChangeShapes Go.WideShapes Go.ChangeAt Go.RowKit

/-- A world of the class. -/
structure In (C : World → Prop) where
  w : World
  h : C w
theorem wp_region_later {P : Program} {id : Nat} {Q : Exit → Act → World → Prop} {a : Act} {w : World} {l : List Oper} (C : World → Prop) (hm : P.follows .mixedOrders = true) (hB : Region.lexB .any l.toArray = true) (hC : C w.drew)
    (h : ∀ _ : Nonempty (In C), wpQuiet P l.toArray (fun w' => ∃ x : In C, w' = x.w) (fun a' => ∀ w', C w' → Q .normal a' w') l a) : (Code.region id l.toArray true).wp P Q a w := by
  refine wp_region_quiet (C := C) hm hB hC ?_
  have h := h ⟨⟨_, hC⟩⟩
  have e : (fun w' => ∃ x : In C, w' = x.w) = C := by
    funext w'
    exact propext ⟨fun ⟨x, hx⟩ => hx ▸ x.h, fun h => ⟨⟨w', h⟩, rfl⟩⟩
  rw [e] at h
  simpa using h
theorem later_of {P : Program} {C : World → Prop} {f : FuncId} {args : Array Value} {v : Value} {x : In C} (h : Calls P f args x.w fun e w' => e = .returned v ∧ C w') :
    Calls P f args x.w fun e w'' => e = .returned v ∧ ∃ y : In C, w'' = y.w :=
  h.mono fun _ w' ⟨he, hw⟩ => ⟨he, ⟨w', hw⟩, rfl⟩

/-- All that lay in w lies as it lay, and these cells hold these values. -/
def Keeps (w : World) (F : List (Addr × Value)) (x : World) : Prop := Below w.heap.size w x ∧ ∀ p ∈ F, x.cell? p.1 = some p.2
theorem Keeps.below {w x y : World} {F : List (Addr × Value)} (h : Keeps w F x) (hb : Below x.heap.size x y) : Keeps w F y :=
  ⟨h.1.trans (hb.mono h.1.size), fun p hp => (hb.cell (World.block_lt_of_cell? x p.1 (h.2 p hp))).trans (h.2 p hp)⟩
theorem Keeps.drew {w x : World} {F : List (Addr × Value)} (h : Keeps w F x) : Keeps w F x.drew := ⟨h.1.drew, fun p hp => h.2 p hp⟩
theorem Keeps.at {w : World} {F : List (Addr × Value)} (j : Nat) {p : Addr × Value} (hj : F[j]? = some p) (x : In (Keeps w F)) : x.w.cell? p.1 = some p.2 :=
  x.h.2 p (List.mem_of_getElem? hj)
/-- A callee by its contract, in a world of the class. -/
theorem Keeps.calls {P : Program} {w : World} {F : List (Addr × Value)} {f : FuncId} {args : Array Value} {v : Value} (h : ∀ w, Calls P f args w fun e w' => e = .returned v ∧ Below w.heap.size w w') (x : In (Keeps w F)) :
    Calls P f args x.w fun e w'' => e = .returned v ∧ ∃ y : In (Keeps w F), w'' = y.w :=
  later_of ((h x.w).mono fun _ _ ⟨he, hb⟩ => ⟨he, x.h.below hb⟩)
end Go.Proofs.Ytapdkdfgjjdbkaa
/-
  ITEMS HELD AGAINST EACH OTHER: the reference's order, by contract.
-/
namespace Go.Proofs.Ytapdkdfgjjdbkaa
open Go.ChangeShapes Go.WideShapes Go.ChangeAt Go.RowKit

theorem lcmp_one (a b : Int) : lcmp [a] [b] = cmpI a b := by
  simp only [lcmp, cmpI]
theorem lcmp_two (a b c d : Int) : lcmp [a, b] [c, d] = if cmpI a c = 0 then cmpI b d else cmpI a c := by
  simp only [lcmp, cmpI]
  by_cases h1 : a < c
  · simp [h1]
  · by_cases h2 : c < a
    · simp [h1, h2]
    · simp [h1, h2]
theorem holds_blk {w : World} {g : Nat} {cs : Array Value} {t : TypeId} (h : w.heap[g]? = some (.cells cs t)) : Holds w (.slice (some ⟨g, 0, none⟩) cs.size cs.size) cs.toList := by
  refine ⟨some ⟨g, 0, none⟩, cs.size, by simp, .inr ⟨g, 0, rfl, (Array.getElem?_eq_some_iff.1 h).1, fun k x hx => ?_⟩⟩
  simp only [World.cell?, h, Nat.zero_add]
  simpa using hx
theorem push_lt {a : Array Obj} {x : Obj} {i : Nat} (h : i < a.size) : (a.push x)[i]? = a[i]? := by rw [Array.getElem?_push, if_neg (by omega)]
theorem push_at {a : Array Obj} {x : Obj} {i : Nat} (h : i = a.size) : (a.push x)[i]? = some x := by rw [Array.getElem?_push, if_pos h]
theorem heap4 (w : World) (A B C D : Obj) : ((((w.alloc A).alloc B).alloc C).alloc D).heap[w.heap.size]? = some A ∧ ((((w.alloc A).alloc B).alloc C).alloc D).heap[w.heap.size + 1]? = some B ∧
    ((((w.alloc A).alloc B).alloc C).alloc D).heap[w.heap.size + 2]? = some C ∧ ((((w.alloc A).alloc B).alloc C).alloc D).heap[w.heap.size + 3]? = some D ∧
    Below w.heap.size w ((((w.alloc A).alloc B).alloc C).alloc D) ∧ ((((w.alloc A).alloc B).alloc C).alloc D).heap.size = w.heap.size + 4 := by
  have e : ((((w.alloc A).alloc B).alloc C).alloc D).heap = (((w.heap.push A).push B).push C).push D := rfl
  rw [e]
  refine ⟨(push_lt (by first | (simp only [Array.size_push]; done) | (simp only [Array.size_push]; omega) | rfl)).trans ((push_lt (by first | (simp only [Array.size_push]; done) | (simp only [Array.size_push]; omega) | rfl)).trans ((push_lt (by first | (simp only [Array.size_push]; done) | (simp only [Array.size_push]; omega) | rfl)).trans (push_at (by first | (simp only []; done) | (simp only [Array.size_push]; omega) | rfl)))), (push_lt (by first | (simp only [Array.size_push]; done) | (simp only [Array.size_push]; omega) | rfl)).trans ((push_lt (by first | (simp only [Array.size_push]; done) | (simp only [Array.size_push]; omega) | rfl)).trans (push_at (by first | (simp only [Array.size_push]; done) | (simp only [Array.size_push]; omega) | rfl))), (push_lt (by first | (simp only [Array.size_push]; done) | (simp only [Array.size_push]; omega) | rfl)).trans (push_at (by first | (simp only [Array.size_push]; done) | (simp only [Array.size_push]; omega) | rfl)), push_at (by first | (simp only [Array.size_push]; done) | (simp only [Array.size_push]; omega) | rfl), ?_, by simp⟩
  exact ((((Below.refl _ _).alloc (Nat.le_refl _) _).alloc (by show _ ≤ (w.heap.push _).size; simp) _).alloc (by show _ ≤ ((w.heap.push _).push _).size; simp; omega) _).alloc (by show _ ≤ (((w.heap.push _).push _).push _).size; simp; omega) _
theorem heap2b (w : World) (A B : Obj) : ((w.alloc A).alloc B).heap[w.heap.size]? = some A ∧ ((w.alloc A).alloc B).heap[w.heap.size + 1]? = some B ∧ Below w.heap.size w ((w.alloc A).alloc B) := by
  have e : ((w.alloc A).alloc B).heap = (w.heap.push A).push B := rfl
  rw [e]
  refine ⟨(push_lt (by first | (simp only [Array.size_push]; done) | (simp only [Array.size_push]; omega) | rfl)).trans (push_at (by first | (simp only []; done) | (simp only [Array.size_push]; omega) | rfl)), push_at (by first | (simp only [Array.size_push]; done) | (simp only [Array.size_push]; omega) | rfl), ?_⟩
  exact ((Below.refl _ _).alloc (Nat.le_refl _) _).alloc (by show _ ≤ (w.heap.push _).size; simp) _
/-- Two new rows held against each other. -/
theorem rnew_c {xs ys : List Int} {g h : Nat} {t u : TypeId} {cs ds : Array Value} {w : World} (hg : w.heap[g]? = some (.cells cs t)) (hh : w.heap[h]? = some (.cells ds u)) (e1 : cs.toList = xs.map (Value.int .i64)) (e2 : ds.toList = ys.map (Value.int .i64))
    (hx : xs.length ≤ 2) (hy : ys.length ≤ 2) : Calls Try.prog 27 #[.slice (some ⟨g, 0, none⟩) cs.size cs.size, .slice (some ⟨h, 0, none⟩) ds.size ds.size] w fun e w' => e = .returned (.int .i64 (lcmp xs ys)) ∧ Below w.heap.size w w' :=
  rlist_c _ _ xs ys w (e1 ▸ holds_blk hg) (e2 ▸ holds_blk hh) (by omega) (by omega)
set_option maxHeartbeats 1600000 in
set_option maxRecDepth 1000000 in
theorem rorder_c (x y : It) (nx ny : Value) (w : World) (hx : Holds w nx (x.l.map (Value.int .i64))) (hy : Holds w ny (y.l.map (Value.int .i64))) (hxl : x.l.length ≤ 17592186044416) (hyl : y.l.length ≤ 17592186044416) :
    Calls Try.prog 16 #[itV x nx, itV y ny] w fun e w' => e = .returned (.int .i64 (icmp x y)) ∧ Below w.heap.size w w' := by
  obtain ⟨c, l, p, r⟩ := x
  obtain ⟨c', l', p', r'⟩ := y
  simp only [itV, icmp] at hx hy hxl hyl ⊢
  have hl : ∀ w2, Below w.heap.size w w2 → Calls Try.prog 27 #[nx, ny] w2 fun e w' => e = .returned (.int .i64 (lcmp l l')) ∧ Below w2.heap.size w2 w' :=
    fun w2 h => rlist_c nx ny l l' w2 (hx.below h) (hy.below h) hxl hyl
  obtain ⟨hA1, hA2, hA3, hA4, hB4, hs4⟩ := heap4 w (.cells #[.int .i64 c, nx, .int .i64 p, .int .i64 r] 24) (.cells #[.int .i64 c', ny, .int .i64 p', .int .i64 r'] 24) (.cells #[.int .i64 c] 3) (.cells #[.int .i64 c'] 3)
  have h1 := rnew_c (xs := [c]) (ys := [c']) hA3 hA4 rfl rfl (by simp) (by simp)
  have h2 : ∀ w2 : World, Calls Try.prog 27 #[.slice (some ⟨w2.heap.size, 0, none⟩) 2 2, .slice (some ⟨w2.heap.size + 1, 0, none⟩) 2 2] ((w2.alloc (.cells #[.int .i64 p, .int .i64 r] 3)).alloc (.cells #[.int .i64 p', .int .i64 r'] 3))
      fun e w' => e = .returned (.int .i64 (lcmp [p, r] [p', r'])) ∧ Below w2.heap.size w2 w' := fun w2 => by
    obtain ⟨k1, k2, k3⟩ := heap2b w2 (.cells #[.int .i64 p, .int .i64 r] 3) (.cells #[.int .i64 p', .int .i64 r'] 3)
    exact (rnew_c (xs := [p, r]) (ys := [p', r']) k1 k2 rfl rfl (by simp) (by simp)).mono fun _ _ ⟨he, hb⟩ => ⟨he, k3.trans (hb.mono k3.size)⟩
  rw [lcmp_one] at h1
  simp only [lcmp_two] at h2
  clear hA3 hA4 hx hy hxl hyl
  generalize lcmp l l' = L at *
  generalize cmpI c c' = C at *
  generalize cmpI p p' = P at *
  generalize cmpI r r' = R at *
  have hZ : Hid ((C ≠ 0 → (if C = 0 then orS L P R else C) = C) ∧ (C = 0 → L ≠ 0 → (if C = 0 then orS L P R else C) = L) ∧ (C = 0 → L = 0 → (if C = 0 then orS L P R else C) = if P = 0 then R else P)) :=
    ⟨fun h => if_neg h, fun h g => by rw [if_pos h, orS, if_neg g], fun h g => by rw [if_pos h, orS, if_pos g]⟩
  generalize (if C = 0 then orS L P R else C) = Z at *
  generalize (if P = 0 then R else P) = O at *
  replace hA1 := hiddenI hA1
  replace hA2 := hiddenI hA2
  replace hB4 := hiddenI hB4
  replace hs4 := hiddenI hs4
  go_enter Try.func16, Try.ntmps16
  go_wp2_with fail
  refine h1.mono ?_
  rintro e w1 ⟨rfl, hB⟩
  have hX := (hB.block _ (by rw [hs4.out]; omega)).trans hA1.out
  have hY := (hB.block _ (by rw [hs4.out]; omega)).trans hA2.out
  have hBw : Hid (Below w.heap.size w w1) := hB4.out.trans (hB.mono (by rw [hs4.out]; omega))
  clear hB hA1 hA2 hB4 hs4 h1
  replace hX := hiddenI hX
  replace hY := hiddenI hY
  by_cases hC : C = 0
  · obtain ⟨⟨x0, x1, x2, x3⟩, z0, z1, z2, z3⟩ := box4 hX.out
    obtain ⟨⟨y0, y1, y2, y3⟩, u0, u1, u2, u3⟩ := box4 hY.out
    have hl := hl w1 hBw.out
    go_wp2_with fail
    refine hl.mono ?_
    rintro e w3 ⟨rfl, hB⟩
    have hX3 := (hB.block _ (Array.getElem?_eq_some_iff.1 hX.out).1).trans hX.out
    have hY3 := (hB.block _ (Array.getElem?_eq_some_iff.1 hY.out).1).trans hY.out
    have hBw3 : Hid (Below w.heap.size w w3) := hBw.out.trans (hB.mono hBw.out.size)
    clear hB hX hY hBw hl x0 x1 x2 x3 z0 z1 z2 z3 y0 y1 y2 y3 u0 u1 u2 u3
    by_cases hL : L = 0
    · replace hZ := hiddenI (hZ.out.2.2 hC hL)
      subst hC
      subst hL
      obtain ⟨⟨x0, x1, x2, x3⟩, z0, z1, z2, z3⟩ := box4 hX3
      obtain ⟨⟨y0, y1, y2, y3⟩, u0, u1, u2, u3⟩ := box4 hY3
      have h2 := h2 w3
      clear hX3 hY3
      have q1 : ((w3.alloc (.cells #[.int .i64 p, .int .i64 r] 3)).cell? ⟨w.heap.size + 1, 2, none⟩) = some (.int .i64 p') := by
        rw [World.cell?_alloc_lt]
        · exact y2
        · exact World.block_lt_of_cell? _ _ y2
      have q2 : ((w3.alloc (.cells #[.int .i64 p, .int .i64 r] 3)).cell? ⟨w.heap.size + 1, 3, none⟩) = some (.int .i64 r') := by
        rw [World.cell?_alloc_lt]
        · exact y3
        · exact World.block_lt_of_cell? _ _ y3
      go_wp2_with fail
      refine h2.mono ?_
      rintro e w5 ⟨rfl, hB⟩
      go_wp2
      go_ret
      exact ⟨by rw [hZ.out]; first | done | rfl, hBw3.out.trans (hB.mono hBw3.out.size)⟩
    · replace hZ := hiddenI (hZ.out.2.1 hC hL)
      subst hC
      clear hX3 hY3
      go_wp2
      go_ret
      exact ⟨by rw [hZ.out]; first | done | rfl, hBw3.out⟩
  · replace hZ := hiddenI (hZ.out.1 hC)
    go_wp2
    go_ret
    exact ⟨by rw [hZ.out]; first | done | rfl, hBw.out⟩
end Go.Proofs.Ytapdkdfgjjdbkaa
/-
  ROWS OF ITEMS HELD AGAINST EACH OTHER: the reference's, by contract.
-/
namespace Go.Proofs.Ytapdkdfgjjdbkaa
open Go.ChangeShapes Go.WideShapes Go.ChangeAt Go.RowKit

/-- Two rows of items are of one order, one by one. -/
def isame (xs ys : List It) : Bool := decide (xs.length = ys.length) && (List.range xs.length).all fun k => icmp (xs.getD k It.none) (ys.getD k It.none) == 0
theorem isame_len {xs ys : List It} (h : xs.length ≠ ys.length) : isame xs ys = false := by simp [isame, h]
theorem isame_all {xs ys : List It} (h : xs.length = ys.length) (ha : ∀ k, k < xs.length → icmp (xs.getD k It.none) (ys.getD k It.none) = 0) : isame xs ys = true := by
  unfold isame
  rw [Bool.and_eq_true]
  exact ⟨decide_eq_true h, List.all_eq_true.2 fun k hk => beq_iff_eq.2 (ha k (List.mem_range.1 hk))⟩
theorem isame_not {xs ys : List It} (k : Nat) (hk : k < xs.length) (h : icmp (xs.getD k It.none) (ys.getD k It.none) ≠ 0) : isame xs ys = false := by
  cases e : isame xs ys with
  | false => rfl
  | true =>
    unfold isame at e
    rw [Bool.and_eq_true] at e
    exact absurd (beq_iff_eq.1 (List.all_eq_true.1 e.2 k (List.mem_range.2 hk))) h
/-- The cells of two items. -/
def eight (b1 o1 b2 o2 : Nat) (x y : It) (nx ny : Value) : List (Addr × Value) :=
  [(⟨b1, o1, none⟩, .int .i64 x.c), (⟨b1, o1 + 1, none⟩, nx), (⟨b1, o1 + 2, none⟩, .int .i64 x.p), (⟨b1, o1 + 3, none⟩, .int .i64 x.r),
   (⟨b2, o2, none⟩, .int .i64 y.c), (⟨b2, o2 + 1, none⟩, ny), (⟨b2, o2 + 2, none⟩, .int .i64 y.p), (⟨b2, o2 + 3, none⟩, .int .i64 y.r)]
theorem its_at {w : World} {a : Option Addr} {ys : List It} (h : ys = [] ∨ ∃ b off, a = some ⟨b, off, none⟩ ∧ b < w.heap.size ∧ ∀ j, j < ys.length → ∃ nv, ItAt w b (off + j * 4) (ys.getD j It.none) nv) {k : Nat} (hk : k < ys.length) :
    ∃ b off nv, a = some ⟨b, off, none⟩ ∧ ItAt w b (off + k * 4) (ys.getD k It.none) nv := by
  rcases h with rfl | ⟨b, off, h1, _, h3⟩
  · exact absurd hk (by simp)
  · obtain ⟨nv, h⟩ := h3 k hk
    exact ⟨b, off, nv, h1, h⟩
set_option maxHeartbeats 1600000 in
set_option maxRecDepth 1000000 in
theorem rsame_c (va vb : Value) (xs ys : List It) (w : World) (hva : HoldsIL w va xs) (hvb : HoldsIL w vb ys) (hx : xs.length ≤ 17592186044416) (_hy : ys.length ≤ 17592186044416)
    (hxl : ∀ k, k < xs.length → (xs.getD k It.none).l.length ≤ 17592186044416) (hyl : ∀ k, k < ys.length → (ys.getD k It.none).l.length ≤ 17592186044416) :
    Calls Try.prog 11 #[va, vb] w fun e w' => e = .returned (.bool (isame xs ys)) ∧ Below w.heap.size w w' := by
  obtain ⟨a, cap, rfl, hra⟩ := hva
  obtain ⟨b, cap', rfl, hrb⟩ := hvb
  replace hxl := hiddenI hxl
  replace hyl := hiddenI hyl
  by_cases hl : xs.length = ys.length
  · go_enter Try.func11, Try.ntmps11
    go_wp2
    go_loopw [5] (fun i wr => ∃ k : Nat, k ≤ xs.length ∧ i = .int .i64 k ∧ Hid (∀ j, j < k → icmp (xs.getD j It.none) (ys.getD j It.none) = 0) ∧ Hid (Below w.heap.size w wr))
      (fun i _ => xs.length - (intOf i).toNat)
    case atStart => exact ⟨0, Nat.zero_le _, rfl, fun j hj => by omega, Below.refl _ _⟩
    case round =>
      obtain ⟨k, hk, rfl, ht, hnx⟩ := hrel
      by_cases hlt : k < xs.length
      · have hlt2 : k < ys.length := by omega
        obtain ⟨b1, o1, n1, rfl, hi1⟩ := its_at hra hlt
        obtain ⟨b2, o2, n2, rfl, hi2⟩ := its_at hrb hlt2
        have hi1 := hi1.below hnx.out
        have hi2 := hi2.below hnx.out
        have hxk := hxl.out k hlt
        have hyk := hyl.out k hlt2
        have hno := hiddenI fun h => isame_not (xs := xs) (ys := ys) k hlt h
        have hok : Hid (icmp (xs.getD k It.none) (ys.getD k It.none) = 0 → ∀ j, j < k + 1 → icmp (xs.getD j It.none) (ys.getD j It.none) = 0) := fun h j hj => by
          rcases Nat.lt_or_ge j k with h2 | h2
          · exact ht.out j h2
          · obtain rfl : j = k := by omega
            exact h
        generalize xs.getD k It.none = x at *
        generalize ys.getD k It.none = y at *
        obtain ⟨c0, c1, c2, c3, hn1⟩ := hi1
        obtain ⟨d0, d1, d2, d3, hn2⟩ := hi2
        have hk : Keeps wr (eight b1 (o1 + k * 4) b2 (o2 + k * 4) x y n1 n2) wr.drew := by
          refine Keeps.drew ⟨Below.refl _ _, fun p hp => ?_⟩
          simp only [eight, List.mem_cons, List.not_mem_nil, or_false] at hp
          rcases hp with rfl | rfl | rfl | rfl | rfl | rfl | rfl | rfl <;> assumption
        have hcall : ∀ z : In (Keeps wr (eight b1 (o1 + k * 4) b2 (o2 + k * 4) x y n1 n2)), Calls Try.prog 16 #[itV x n1, itV y n2] z.w fun e w'' => e = .returned (.int .i64 (icmp x y)) ∧ ∃ u : In (Keeps wr (eight b1 (o1 + k * 4) b2 (o2 + k * 4) x y n1 n2)), w'' = u.w :=
          fun z => later_of ((rorder_c x y n1 n2 z.w (hn1.below z.h.1) (hn2.below z.h.1) hxk hyk).mono fun _ _ ⟨he, hb⟩ => ⟨he, z.h.below hb⟩)
        generalize icmp x y = c at *
        simp only [itV] at hcall
        clear c0 c1 c2 c3 d0 d1 d2 d3 hn1 hn2 hxk hyk hra hrb
        have f0 : ∀ z : In (Keeps wr (eight b1 (o1 + k * 4) b2 (o2 + k * 4) x y n1 n2)), _ := Keeps.at 0 rfl
        have f1 : ∀ z : In (Keeps wr (eight b1 (o1 + k * 4) b2 (o2 + k * 4) x y n1 n2)), _ := Keeps.at 1 rfl
        have f2 : ∀ z : In (Keeps wr (eight b1 (o1 + k * 4) b2 (o2 + k * 4) x y n1 n2)), _ := Keeps.at 2 rfl
        have f3 : ∀ z : In (Keeps wr (eight b1 (o1 + k * 4) b2 (o2 + k * 4) x y n1 n2)), _ := Keeps.at 3 rfl
        have f4 : ∀ z : In (Keeps wr (eight b1 (o1 + k * 4) b2 (o2 + k * 4) x y n1 n2)), _ := Keeps.at 4 rfl
        have f5 : ∀ z : In (Keeps wr (eight b1 (o1 + k * 4) b2 (o2 + k * 4) x y n1 n2)), _ := Keeps.at 5 rfl
        have f6 : ∀ z : In (Keeps wr (eight b1 (o1 + k * 4) b2 (o2 + k * 4) x y n1 n2)), _ := Keeps.at 6 rfl
        have f7 : ∀ z : In (Keeps wr (eight b1 (o1 + k * 4) b2 (o2 + k * 4) x y n1 n2)), _ := Keeps.at 7 rfl
        dsimp only at f0 f1 f2 f3 f4 f5 f6 f7
        have hj1 : (k : Int) < (xs.length : Int) := by omega
        have hj2 : (k : Int) < (ys.length : Int) := by omega
        go_wp2_with fail
        refine wp_region_later (Keeps wr (eight b1 (o1 + k * 4) b2 (o2 + k * 4) x y n1 n2)) (by kernel_rfl) (by kernel_rfl) hk (fun hne => ?_)
        repeat (go_big_quiet_step (exact hcall _))
        refine wpQuiet_nil ?_
        intro wL hL
        clear f0 f1 f2 f3 f4 f5 f6 f7 hk hcall
        have hBL : Hid (Below w.heap.size w wL) := hnx.out.trans (hL.1.mono hnx.out.size)
        clear hL
        by_cases hc0 : c = 0
        · have hok2 := hiddenI (hok.out hc0)
          subst hc0
          go_wp2
          go_roundw
          case rel => exact ⟨k + 1, by omega, by go_num, hok2, hBL⟩
          case measure => simp [intOf]; omega
        · have hno2 := hiddenI (hno.out hc0)
          go_wp2
          go_ret
          exact ⟨by rw [hno2.out]; first | done | rfl, hBL.out⟩
      · have hall := hiddenI (isame_all hl fun j hj => ht.out j (by omega))
        clear ht
        go_wp2
        go_ret
        exact ⟨by rw [hall.out]; first | done | rfl, hnx.out⟩
  · have e := hiddenI (isame_len hl)
    have hl' : ((xs.length : Int) == (ys.length : Int)) = false := by simp; omega
    go_enter Try.func11, Try.ntmps11
    go_wp2
    go_ret
    exact ⟨by rw [e.out]; first | done | rfl, Below.refl _ _⟩
end Go.Proofs.Ytapdkdfgjjdbkaa
