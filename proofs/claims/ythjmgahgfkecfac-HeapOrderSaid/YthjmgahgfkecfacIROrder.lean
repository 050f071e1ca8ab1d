/-
  ITEMS HELD AGAINST EACH OTHER: the reference's order, by contract.
-/
import Derived.Test.YthjmgahgfkecfacIOrder
namespace Go.Proofs.Ythjmgahgfkecfac
open Go.ChangeShapes Go.WideShapes Go.ChangeAt Go.RowKit

theorem lcmp_one (a b : Int) : lcmp [a] [b] = cmpI a b := by
  simp only [lcmp, cmpI]
theorem lcmp_two (a b c d : Int) : lcmp [a, b] [c, d] = if cmpI a c = 0 then cmpI b d else cmpI a c := by
  simp only [lcmp, cmpI]
  by_cases h1 : a < c
  · simp [h1]
  · by_cases h2 : c < a
    · simp [h1, h2]
    · simp [h1, h2]
theorem holds_blk {w : World} {g : Nat} {cs : Array Value} {t : TypeId} (h : w.heap[g]? = some (.cells cs t)) : Holds w (.slice (some ⟨g, 0, none⟩) cs.size cs.size) cs.toList := by
  refine ⟨some ⟨g, 0, none⟩, cs.size, by simp, .inr ⟨g, 0, rfl, (Array.getElem?_eq_some_iff.1 h).1, fun k x hx => ?_⟩⟩
  simp only [World.cell?, h, Nat.zero_add]
  simpa using hx
theorem push_lt {a : Array Obj} {x : Obj} {i : Nat} (h : i < a.size) : (a.push x)[i]? = a[i]? := by rw [Array.getElem?_push, if_neg (by omega)]
theorem push_at {a : Array Obj} {x : Obj} {i : Nat} (h : i = a.size) : (a.push x)[i]? = some x := by rw [Array.getElem?_push, if_pos h]
theorem heap4 (w : World) (A B C D : Obj) : ((((w.alloc A).alloc B).alloc C).alloc D).heap[w.heap.size]? = some A ∧ ((((w.alloc A).alloc B).alloc C).alloc D).heap[w.heap.size + 1]? = some B ∧
    ((((w.alloc A).alloc B).alloc C).alloc D).heap[w.heap.size + 2]? = some C ∧ ((((w.alloc A).alloc B).alloc C).alloc D).heap[w.heap.size + 3]? = some D ∧
    Below w.heap.size w ((((w.alloc A).alloc B).alloc C).alloc D) ∧ ((((w.alloc A).alloc B).alloc C).alloc D).heap.size = w.heap.size + 4 := by
  have e : ((((w.alloc A).alloc B).alloc C).alloc D).heap = (((w.heap.push A).push B).push C).push D := rfl
  rw [e]
  refine ⟨(push_lt (by first | (simp only [Array.size_push]; done) | (simp only [Array.size_push]; omega) | rfl)).trans ((push_lt (by first | (simp only [Array.size_push]; done) | (simp only [Array.size_push]; omega) | rfl)).trans ((push_lt (by first | (simp only [Array.size_push]; done) | (simp only [Array.size_push]; omega) | rfl)).trans (push_at (by first | (simp only []; done) | (simp only [Array.size_push]; omega) | rfl)))), (push_lt (by first | (simp only [Array.size_push]; done) | (simp only [Array.size_push]; omega) | rfl)).trans ((push_lt (by first | (simp only [Array.size_push]; done) | (simp only [Array.size_push]; omega) | rfl)).trans (push_at (by first | (simp only [Array.size_push]; done) | (simp only [Array.size_push]; omega) | rfl))), (push_lt (by first | (simp only [Array.size_push]; done) | (simp only [Array.size_push]; omega) | rfl)).trans (push_at (by first | (simp only [Array.size_push]; done) | (simp only [Array.size_push]; omega) | rfl)), push_at (by first | (simp only [Array.size_push]; done) | (simp only [Array.size_push]; omega) | rfl), ?_, by simp⟩
  exact ((((Below.refl _ _).alloc (Nat.le_refl _) _).alloc (by show _ ≤ (w.heap.push _).size; simp) _).alloc (by show _ ≤ ((w.heap.push _).push _).size; simp; omega) _).alloc (by show _ ≤ (((w.heap.push _).push _).push _).size; simp; omega) _
theorem heap2b (w : World) (A B : Obj) : ((w.alloc A).alloc B).heap[w.heap.size]? = some A ∧ ((w.alloc A).alloc B).heap[w.heap.size + 1]? = some B ∧ Below w.heap.size w ((w.alloc A).alloc B) := by
  have e : ((w.alloc A).alloc B).heap = (w.heap.push A).push B := rfl
  rw [e]
  refine ⟨(push_lt (by first | (simp only [Array.size_push]; done) | (simp only [Array.size_push]; omega) | rfl)).trans (push_at (by first | (simp only []; done) | (simp only [Array.size_push]; omega) | rfl)), push_at (by first | (simp only [Array.size_push]; done) | (simp only [Array.size_push]; omega) | rfl), ?_⟩
  exact ((Below.refl _ _).alloc (Nat.le_refl _) _).alloc (by show _ ≤ (w.heap.push _).size; simp) _
/-- Two new rows held against each other. -/
theorem rnew_c {xs ys : List Int} {g h : Nat} {t u : TypeId} {cs ds : Array Value} {w : World} (hg : w.heap[g]? = some (.cells cs t)) (hh : w.heap[h]? = some (.cells ds u)) (e1 : cs.toList = xs.map (Value.int .i64)) (e2 : ds.toList = ys.map (Value.int .i64))
    (hx : xs.length ≤ 2) (hy : ys.length ≤ 2) : Calls Try.prog 15 #[.slice (some ⟨g, 0, none⟩) cs.size cs.size, .slice (some ⟨h, 0, none⟩) ds.size ds.size] w fun e w' => e = .returned (.int .i64 (lcmp xs ys)) ∧ Below w.heap.size w w' :=
  rlist_c _ _ xs ys w (e1 ▸ holds_blk hg) (e2 ▸ holds_blk hh) (by omega) (by omega)
set_option maxHeartbeats 1600000 in
set_option maxRecDepth 1000000 in
theorem rorder_c (x y : It) (nx ny : Value) (w : World) (hx : Holds w nx (x.l.map (Value.int .i64))) (hy : Holds w ny (y.l.map (Value.int .i64))) (hxl : x.l.length ≤ 17592186044416) (hyl : y.l.length ≤ 17592186044416) :
    Calls Try.prog 7 #[itV x nx, itV y ny] w fun e w' => e = .returned (.int .i64 (icmp x y)) ∧ Below w.heap.size w w' := by
  obtain ⟨c, l, p, r⟩ := x
  obtain ⟨c', l', p', r'⟩ := y
  simp only [itV, icmp] at hx hy hxl hyl ⊢
  have hl : ∀ w2, Below w.heap.size w w2 → Calls Try.prog 15 #[nx, ny] w2 fun e w' => e = .returned (.int .i64 (lcmp l l')) ∧ Below w2.heap.size w2 w' :=
    fun w2 h => rlist_c nx ny l l' w2 (hx.below h) (hy.below h) hxl hyl
  obtain ⟨hA1, hA2, hA3, hA4, hB4, hs4⟩ := heap4 w (.cells #[.int .i64 c, nx, .int .i64 p, .int .i64 r] 24) (.cells #[.int .i64 c', ny, .int .i64 p', .int .i64 r'] 24) (.cells #[.int .i64 c] 3) (.cells #[.int .i64 c'] 3)
  have h1 := rnew_c (xs := [c]) (ys := [c']) hA3 hA4 rfl rfl (by simp) (by simp)
  have h2 : ∀ w2 : World, Calls Try.prog 15 #[.slice (some ⟨w2.heap.size, 0, none⟩) 2 2, .slice (some ⟨w2.heap.size + 1, 0, none⟩) 2 2] ((w2.alloc (.cells #[.int .i64 p, .int .i64 r] 3)).alloc (.cells #[.int .i64 p', .int .i64 r'] 3))
      fun e w' => e = .returned (.int .i64 (lcmp [p, r] [p', r'])) ∧ Below w2.heap.size w2 w' := fun w2 => by
    obtain ⟨k1, k2, k3⟩ := heap2b w2 (.cells #[.int .i64 p, .int .i64 r] 3) (.cells #[.int .i64 p', .int .i64 r'] 3)
    exact (rnew_c (xs := [p, r]) (ys := [p', r']) k1 k2 rfl rfl (by simp) (by simp)).mono fun _ _ ⟨he, hb⟩ => ⟨he, k3.trans (hb.mono k3.size)⟩
  rw [lcmp_one] at h1
  simp only [lcmp_two] at h2
  clear hA3 hA4 hx hy hxl hyl
  generalize lcmp l l' = L at *
  generalize cmpI c c' = C at *
  generalize cmpI p p' = P at *
  generalize cmpI r r' = R at *
  have hZ : Hid ((C ≠ 0 → (if C = 0 then orS L P R else C) = C) ∧ (C = 0 → L ≠ 0 → (if C = 0 then orS L P R else C) = L) ∧ (C = 0 → L = 0 → (if C = 0 then orS L P R else C) = if P = 0 then R else P)) :=
    ⟨fun h => if_neg h, fun h g => by rw [if_pos h, orS, if_neg g], fun h g => by rw [if_pos h, orS, if_pos g]⟩
  generalize (if C = 0 then orS L P R else C) = Z at *
  generalize (if P = 0 then R else P) = O at *
  replace hA1 := hiddenI hA1
  replace hA2 := hiddenI hA2
  replace hB4 := hiddenI hB4
  replace hs4 := hiddenI hs4
  go_enter Try.func7, Try.ntmps7
  go_wp2_with fail
  refine h1.mono ?_
  rintro e w1 ⟨rfl, hB⟩
  have hX := (hB.block _ (by rw [hs4.out]; omega)).trans hA1.out
  have hY := (hB.block _ (by rw [hs4.out]; omega)).trans hA2.out
  have hBw : Hid (Below w.heap.size w w1) := hB4.out.trans (hB.mono (by rw [hs4.out]; omega))
  clear hB hA1 hA2 hB4 hs4 h1
  replace hX := hiddenI hX
  replace hY := hiddenI hY
  by_cases hC : C = 0
  · obtain ⟨⟨x0, x1, x2, x3⟩, z0, z1, z2, z3⟩ := box4 hX.out
    obtain ⟨⟨y0, y1, y2, y3⟩, u0, u1, u2, u3⟩ := box4 hY.out
    have hl := hl w1 hBw.out
    go_wp2_with fail
    refine hl.mono ?_
    rintro e w3 ⟨rfl, hB⟩
    have hX3 := (hB.block _ (Array.getElem?_eq_some_iff.1 hX.out).1).trans hX.out
    have hY3 := (hB.block _ (Array.getElem?_eq_some_iff.1 hY.out).1).trans hY.out
    have hBw3 : Hid (Below w.heap.size w w3) := hBw.out.trans (hB.mono hBw.out.size)
    clear hB hX hY hBw hl x0 x1 x2 x3 z0 z1 z2 z3 y0 y1 y2 y3 u0 u1 u2 u3
    by_cases hL : L = 0
    · replace hZ := hiddenI (hZ.out.2.2 hC hL)
      subst hC
      subst hL
      obtain ⟨⟨x0, x1, x2, x3⟩, z0, z1, z2, z3⟩ := box4 hX3
      obtain ⟨⟨y0, y1, y2, y3⟩, u0, u1, u2, u3⟩ := box4 hY3
      have h2 := h2 w3
      clear hX3 hY3
      have q1 : ((w3.alloc (.cells #[.int .i64 p, .int .i64 r] 3)).cell? ⟨w.heap.size + 1, 2, none⟩) = some (.int .i64 p') := by
        rw [World.cell?_alloc_lt]
        · exact y2
        · exact World.block_lt_of_cell? _ _ y2
      have q2 : ((w3.alloc (.cells #[.int .i64 p, .int .i64 r] 3)).cell? ⟨w.heap.size + 1, 3, none⟩) = some (.int .i64 r') := by
        rw [World.cell?_alloc_lt]
        · exact y3
        · exact World.block_lt_of_cell? _ _ y3
      go_wp2_with fail
      refine h2.mono ?_
      rintro e w5 ⟨rfl, hB⟩
      go_wp2
      go_ret
      exact ⟨by rw [hZ.out]; first | done | rfl, hBw3.out.trans (hB.mono hBw3.out.size)⟩
    · replace hZ := hiddenI (hZ.out.2.1 hC hL)
      subst hC
      clear hX3 hY3
      go_wp2
      go_ret
      exact ⟨by rw [hZ.out]; first | done | rfl, hBw3.out⟩
  · replace hZ := hiddenI (hZ.out.1 hC)
    go_wp2
    go_ret
    exact ⟨by rw [hZ.out]; first | done | rfl, hBw.out⟩
end Go.Proofs.Ythjmgahgfkecfac
