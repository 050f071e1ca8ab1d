/-
  HeapOwn's OWN LAW: what is in a heap is nobody else's.
-/
import Derived.Test.YtapdkdfgjjdbkaaHSortsLaw
import Derived.Test.YtapdkdfgjjdbkaaHAny
import Derived.Test.YtapdkdfgjjdbkaaItemB
import Derived.BigRegion
namespace Go.Proofs.Ytapdkdfgjjdbkaa
open Go.ChangeShapes Go.WideShapes Go.ChangeAt Go.RowKit

/-- A row of numbers that may be spoilt. -/
def SpRow (ok : Nat → Prop) (x : World) (v : Value) (n : Nat) : Prop := ∃ a c, v = .slice a n c ∧ ∀ j, j < n → ∃ g cur u, a = some ⟨g, 0, none⟩ ∧ ok g ∧ x.heap[g]? = some (.cells cur 3) ∧ cur[j]? = some (.int .i64 u)
theorem spRow_of {lo : Nat} {ok : Nat → Prop} {x : World} {v : Value} {l : List Int} (h : x.ownsRow lo 3 1 v l.length (ints l)) (hok : ∀ g, v.ownBlock = some g → lo ≤ g → ok g) : SpRow ok x v l.length := by
  obtain ⟨hl, h⟩ := h
  rcases h with ⟨rfl, h0⟩ | ⟨g, cap, cur, rfl, hg, hc, _, _, _, htk⟩
  · exact ⟨none, 0, by rw [h0], fun j hj => by omega⟩
  · refine ⟨_, cap, rfl, fun j hj => ⟨g, cur, l.getD j 0, rfl, hok g rfl hg, hc, ?_⟩⟩
    have h1 : (ints l)[j]? = some (.int .i64 (l.getD j 0)) := by simp [ints, List.getD, hj]
    rw [← htk, List.getElem?_take_of_lt (by omega)] at h1
    rw [← Array.getElem?_toList]
    exact h1
theorem SpRow.set {ok : Nat → Prop} {x : World} {v : Value} {n : Nat} (h : SpRow ok x v n) {g : Nat} {cs : Array Value} (hg : x.heap[g]? = some (.cells cs 3)) (j : Nat) (u : Int) : SpRow ok (x.setCell ⟨g, j, none⟩ (.int .i64 u)) v n := by
  obtain ⟨a, c, rfl, h⟩ := h
  refine ⟨a, c, rfl, fun k hk => ?_⟩
  obtain ⟨g2, cur, u2, e1, e2, e3, e4⟩ := h k hk
  by_cases e : g = g2
  · subst e
    rw [hg] at e3
    simp only [Option.some.injEq, Obj.cells.injEq] at e3
    obtain ⟨rfl, _⟩ := e3
    by_cases hj : j = k
    · subst hj
      refine ⟨g, _, u, e1, e2, heap_setI hg j _, ?_⟩
      have := (Array.getElem?_eq_some_iff.1 e4).1
      simp [this]
    · refine ⟨g, _, u2, e1, e2, heap_setI hg j _, ?_⟩
      rw [Array.getElem?_setIfInBounds_ne (by omega)]
      exact e4
  · exact ⟨g2, cur, u2, e1, e2, (heap_oI e).trans e3, e4⟩
theorem SpRow.below {ok : Nat → Prop} {x z : World} {v : Value} {n : Nat} (h : SpRow ok x v n) (hB : Below x.heap.size x z) : SpRow ok z v n := by
  obtain ⟨a, c, rfl, h⟩ := h
  refine ⟨a, c, rfl, fun k hk => ?_⟩
  obtain ⟨g2, cur, u2, e1, e2, e3, e4⟩ := h k hk
  exact ⟨g2, cur, u2, e1, e2, (hB.block _ (Array.getElem?_eq_some_iff.1 e3).1).trans e3, e4⟩
/-- The cell of such a row. -/
theorem SpRow.cell {ok : Nat → Prop} {x : World} {a : Option Addr} {n c : Nat} (h : SpRow ok x (.slice a n c) n) {j : Nat} (hj : j < n) : ∃ g cur u, a = some ⟨g, 0, none⟩ ∧ ok g ∧ x.heap[g]? = some (.cells cur 3) ∧ x.cell? ⟨g, j, none⟩ = some (.int .i64 u) ∧ x.frozen? ⟨g, j, none⟩ = false := by
  obtain ⟨a', c', e, h⟩ := h
  simp only [Value.slice.injEq] at e
  obtain ⟨rfl, _, rfl⟩ := e
  obtain ⟨g, cur, u, e1, e2, e3, e4⟩ := h j hj
  exact ⟨g, cur, u, e1, e2, e3, by simp [World.cell?, e3, e4], by simp [World.frozen?, e3]⟩
/-- What is so while rows of numbers are spoilt: y1 ahead of them, y6 behind the heap's last change. -/
structure OwnS (y1 y6 : World) (B M P : Nat) (t : It) (mv pv : Value) (lg lc n : Nat) (Ls : List Pr) (y : World) : Prop where
  low : Below y1.heap.size y1 y
  mid : ∀ k : Nat, B ≤ k → k < y6.heap.size → y.heap[k]? = y6.heap[k]?
  le1 : y1.heap.size ≤ B
  le2 : B ≤ y6.heap.size
  hM : y.heap[M]? = some (.cells #[.int .i64 t.c, mv, .int .i64 t.p, .int .i64 t.r] 24)
  hP : y.heap[P]? = some (.cells #[.int .i64 t.c, pv, .int .i64 t.p, .int .i64 t.r] 24)
  rm : SpRow (fun g => y1.heap.size ≤ g ∧ g < B) y mv n
  rp : SpRow (fun g => y6.heap.size ≤ g) y pv n
  list : y.ownsRow 0 24 4 (.slice (some ⟨lg, 0, none⟩) Ls.length lc) Ls.length (encs Ls)
  rl : ∀ p ∈ Ls, SpRow (fun g => y6.heap.size ≤ g) y p.2 n
theorem own_shapeN {w : World} {B t s n : Nat} {v : Value} {xs : List Value} (h : w.ownsRow B t s v n xs) : ∃ a c, v = .slice a n c := by
  rcases h.2 with ⟨rfl, h0⟩ | ⟨g, cap, cur, rfl, _⟩
  · exact ⟨none, 0, by rw [h0]⟩
  · exact ⟨_, _, rfl⟩
theorem OwnS.drew {y1 y6 : World} {B M P : Nat} {t : It} {mv pv : Value} {lg lc n : Nat} {Ls : List Pr} {y : World} (h : OwnS y1 y6 B M P t mv pv lg lc n Ls y) : OwnS y1 y6 B M P t mv pv lg lc n Ls y.drew :=
  ⟨h.low.drew, h.mid, h.le1, h.le2, h.hM, h.hP, h.rm, h.rp, h.list, h.rl⟩
theorem OwnS.set {y1 y6 : World} {B M P : Nat} {t : It} {mv pv : Value} {lg lc n : Nat} {Ls : List Pr} {y : World} (h : OwnS y1 y6 B M P t mv pv lg lc n Ls y) {g : Nat} {cs : Array Value} (hg : y.heap[g]? = some (.cells cs 3)) (hok : (y1.heap.size ≤ g ∧ g < B) ∨ y6.heap.size ≤ g) (j : Nat) (u : Int) :
    OwnS y1 y6 B M P t mv pv lg lc n Ls (y.setCell ⟨g, j, none⟩ (.int .i64 u)) :=
  ⟨h.low.setCell (p := ⟨g, j, none⟩) (by have := h.le1; have := h.le2; show y1.heap.size ≤ g; omega) _,
   fun k h1 h2 => (heap_oI (show g ≠ k by omega)).trans (h.mid k h1 h2), h.le1, h.le2, (heap_oI (ne_types hg h.hM (by decide))).trans h.hM, (heap_oI (ne_types hg h.hP (by decide))).trans h.hP,
   h.rm.set hg j u, h.rp.set hg j u, owns_setO h.list hg (by decide) j _, fun p hp => (h.rl p hp).set hg j u⟩
theorem OwnS.step {y1 y6 : World} {B M P : Nat} {t : It} {mv pv : Value} {lg lc n : Nat} {Ls : List Pr} {y z : World} (h : OwnS y1 y6 B M P t mv pv lg lc n Ls y) (hy : y6.heap.size ≤ y.heap.size) (hB : Below y.heap.size y z) : OwnS y1 y6 B M P t mv pv lg lc n Ls z :=
  ⟨h.low.trans (hB.mono h.low.size), fun k h1 h2 => (hB.block k (by omega)).trans (h.mid k h1 h2), h.le1, h.le2, box_below h.hM hB, box_below h.hP hB, h.rm.below hB, h.rp.below hB, owns_keep h.list hB, fun p hp => (h.rl p hp).below hB⟩
theorem own_mid {B t s n : Nat} {v : Value} {xs : List Value} {y y6 : World} (h : y6.ownsRow B t s v n xs) (hm : ∀ k : Nat, B ≤ k → k < y6.heap.size → y.heap[k]? = y6.heap[k]?) : y.ownsRow B t s v n xs := by
  obtain ⟨hl, h⟩ := h
  refine ⟨hl, ?_⟩
  rcases h with h | ⟨g, cap, cur, h1, h2, h3, h4⟩
  · exact .inl h
  · exact .inr ⟨g, cap, cur, h1, h2, (hm g h2 (Array.getElem?_eq_some_iff.1 h3).1).trans h3, h4⟩
theorem HeapL.mid {B : Nat} {y y6 : World} {b g cap : Nat} {L : List Pr} (h : HeapL B y6 b g cap L) (hm : ∀ k : Nat, B ≤ k → k < y6.heap.size → y.heap[k]? = y6.heap[k]?) : HeapL B y b g cap L :=
  ⟨h.hb, h.hg, (hm b h.hb (Array.getElem?_eq_some_iff.1 h.box).1).trans h.box, own_mid h.row hm, fun p hp => own_mid (h.its p hp) hm⟩
theorem OwnS.at {y1 y6 : World} {B M P : Nat} {t : It} {mv pv : Value} {lg lc n : Nat} {Ls : List Pr} {y : World} (h : OwnS y1 y6 B M P t mv pv lg lc n Ls y) {k : Nat} (hk : k < Ls.length) : y.cell? ⟨lg, k * 4 + 1, none⟩ = some (Ls.getD k pr0).2 :=
  own_cell h.list (encs_get Ls k 1 hk (by decide))
theorem HeapAt.step {B b : Nat} {w z : World} {ys : List It} (h : HeapAt B w b ys) (hB : Below w.heap.size w z) : HeapAt B z b ys := by
  obtain ⟨g, cap, L, hL, hm⟩ := HeapL.of h
  have := (hL.step hB).at
  rwa [hm] at this
/-- What a heap lists that holds one item twice. -/
theorem list2_c {B b : Nat} {t : It} (z : World) (hA : HeapAt B z b [t, t]) (ht : t.l.length ≤ 1000) : Calls Try.prog 10 #[.pointer (some ⟨b, 0, none⟩)] z fun e z' => ∃ v, e = .returned v ∧ HoldsIL z' v [t, t] ∧ Below z.heap.size z z' := by
  refine (heaplist_c B b _ z hA (by simp) (fun y hy => by
    simp only [List.mem_cons, List.not_mem_nil, or_false, or_self] at hy
    rw [hy]; exact ht)).mono ?_
  rintro e z' ⟨L', zs', rfl, hL, hR, hp, -, hB⟩
  obtain rfl : zs' = [t, t] := by
    have h1 : zs'.Perm (List.replicate 2 t) := hp
    exact List.perm_replicate.1 h1
  refine ⟨_, rfl, ?_, hB⟩
  have hm := hrow_map hR hL
  obtain ⟨a, cap', hv, hc, hrw⟩ := hrow_rowP hR hL
  refine ⟨a, cap', by rw [hv, hL], ?_⟩
  rcases hc with h0 | ⟨bb, oo, ha, hb, hc⟩
  · left; rw [← hm, h0]; rfl
  · refine .inr ⟨bb, oo, ha, hb, fun j hj => ?_⟩
    have hj' : j < L'.length := by omega
    have hg : L'[j]? = some (L'.getD j pr0) := by simp [List.getD, hj']
    obtain ⟨c0, c1, c2, c3⟩ := hc j _ hg
    have e : ([t, t] : List It).getD j It.none = (L'.getD j pr0).1 := by rw [← hm]; simp [List.getD, hj']
    rw [e]
    exact ⟨_, c0, c1, c2, c3, (hrw _ (getD_mem hj')).holds⟩
/-- One item twice, in a block. -/
theorem two_items {z : World} {q : Nat} {t : It} {xv : Value} (h : z.heap[q]? = some (.cells #[.int .i64 t.c, xv, .int .i64 t.p, .int .i64 t.r, .int .i64 t.c, xv, .int .i64 t.p, .int .i64 t.r] 24)) (hx : Holds z xv (t.l.map (Value.int .i64))) : HoldsIL z (.slice (some ⟨q, 0, none⟩) 2 2) [t, t] := by
  refine ⟨_, 2, rfl, .inr ⟨q, 0, rfl, (Array.getElem?_eq_some_iff.1 h).1, fun j hj => ⟨xv, ?_⟩⟩⟩
  have hj' : j < 2 := hj
  rcases (show j = 0 ∨ j = 1 by omega) with rfl | rfl
  · exact ⟨by simp [World.cell?, h], by simp [World.cell?, h], by simp [World.cell?, h], by simp [World.cell?, h], hx⟩
  · exact ⟨by simp [World.cell?, h], by simp [World.cell?, h], by simp [World.cell?, h], by simp [World.cell?, h], hx⟩
theorem same2_c {z : World} {v u : Value} {t : It} (hv : HoldsIL z v [t, t]) (hu : HoldsIL z u [t, t]) (ht : t.l.length ≤ 1000) : Calls Try.prog 11 #[v, u] z fun e z' => e = .returned (.bool true) ∧ Below z.heap.size z z' := by
  have hl : ∀ k, k < ([t, t] : List It).length → (([t, t] : List It).getD k It.none).l.length ≤ 17592186044416 := fun k hk => by
    have hk' : k < 2 := hk
    rcases (show k = 0 ∨ k = 1 by omega) with rfl | rfl
    · show t.l.length ≤ _; omega
    · show t.l.length ≤ _; omega
  have hs := rsame_c v u _ _ z hv hu (by simp) (by simp) hl hl
  have e : isame [t, t] [t, t] = true := isame_all rfl fun k _ => icmp_self _
  rw [e] at hs
  exact hs
set_option maxHeartbeats 6400000 in
set_option maxRecDepth 1000000 in
theorem own_law (A : It) (na : Value) (w : World) (hv : Holds w na (A.l.map (Value.int .i64))) (hz : A.l.length ≤ 9223372036854775807)
    (hlv : ∀ x, Calls Try.prog 12 #[] x fun e w' => e = .returned (.bool true) ∧ GoX.Calm x w') :
    Calls Try.prog 3 #[itV A na] w fun e w' => e = .returned (.bool true) ∧ GoX.Calm w w' := by
  obtain ⟨w0, hw0⟩ : ∃ w0, Hid (w0 = w.alloc (.cells #[.int .i64 A.c, na, .int .i64 A.p, .int .i64 A.r] 24)) := ⟨_, hiddenI rfl⟩
  have hB0 : Below w.heap.size w w0 := by rw [hw0.out]; exact (Below.refl _ _).alloc (Nat.le_refl _) _
  have hX0 : w0.heap[w.heap.size]? = some (.cells #[.int .i64 A.c, na, .int .i64 A.p, .int .i64 A.r] 24) := by rw [hw0.out]; exact heap_alloc_new _ _
  have hi1 := itemB_c A na w0 (hv.below hB0) hz
  have hff : (A.few 5).few 5 = A.few 5 := by simp [It.few, List.take_take]
  have hfl : (A.few 5).l.length ≤ 5 := by simp [It.few]; omega
  generalize hAt : A.few 5 = t at *
  obtain ⟨⟨a0, a1, a2, a3⟩, -⟩ := box4 hX0
  obtain ⟨Ac, Al, Ap, Ar⟩ := A
  simp only [itV] at hi1 a0 a1 a2 a3 ⊢
  obtain ⟨aa, ac, hna, -⟩ := id hv
  generalize (Al.map (Value.int .i64)).length = an at hna
  subst hna
  have hB0h := hiddenI hB0
  have hX0h := hiddenI hX0
  clear hv hB0 hX0 hz hAt
  go_enter Try.func3, Try.ntmps3
  go_wp2_with fail
  rw [← hw0.out]
  refine hi1.mono ?_
  rintro e w1 ⟨xv, rfl, hxv, hB1⟩
  have hX1 := box_below hX0h.out hB1
  obtain ⟨⟨b0, b1, b2, b3⟩, z0, z1, z2, z3⟩ := box4 hX1
  obtain ⟨xa, xn, xc, rfl⟩ := own_slice hxv
  obtain ⟨tc, tl, tp, tr⟩ := t
  simp only at hfl hxv
  obtain ⟨y1, hy1⟩ : ∃ y1, Hid (y1 = (((w1.setCell ⟨w.heap.size, 0, none⟩ (.int .i64 tc)).setCell ⟨w.heap.size, 1, none⟩ (.slice xa xn xc)).setCell ⟨w.heap.size, 2, none⟩ (.int .i64 tp)).setCell ⟨w.heap.size, 3, none⟩ (.int .i64 tr)) := ⟨_, hiddenI rfl⟩
  have hXy : y1.heap[w.heap.size]? = some (.cells #[.int .i64 tc, .slice xa xn xc, .int .i64 tp, .int .i64 tr] 24) := by rw [hy1.out]; exact heap_set4 hX1 _ _ _ _
  have hBy : Below w.heap.size w y1 := by
    rw [hy1.out]
    exact (((((hB0h.out.trans (hB1.mono hB0h.out.size)).setCell (p := ⟨w.heap.size, 0, none⟩) (Nat.le_refl _) _).setCell (p := ⟨w.heap.size, 1, none⟩) (Nat.le_refl _) _).setCell (p := ⟨w.heap.size, 2, none⟩) (Nat.le_refl _) _).setCell (p := ⟨w.heap.size, 3, none⟩) (Nat.le_refl _) _)
  have hxy : y1.ownsRow w0.heap.size 3 1 (.slice xa xn xc) tl.length (tl.map (Value.int .i64)) := by
    have h1 := heap_setI hX1 0 (.int .i64 tc)
    have h2 := heap_setI h1 1 (.slice xa xn xc)
    have h3 := heap_setI h2 2 (.int .i64 tp)
    rw [hy1.out]
    exact owns_setO (owns_setO (owns_setO (owns_setO hxv hX1 (by decide) 0 _) h1 (by decide) 1 _) h2 (by decide) 2 _) h3 (by decide) 3 _
  have hi2 := itemB_c ⟨tc, tl, tp, tr⟩ (.slice xa xn xc) y1 (holds_of_owns hxy) (by show tl.length ≤ _; omega)
  rw [hff] at hi2
  simp only [itV] at hi2
  obtain ⟨⟨d0, d1, d2, d3⟩, -⟩ := box4 hXy
  have hXyh := hiddenI hXy
  have hByh := hiddenI hBy
  have hxyh := hiddenI hxy
  clear hi1 hX1 hxv hB1 hXy hBy hxy a0 a1 a2 a3 hX0h hff
  go_wp2_with fail
  rw [← hy1.out]
  clear b0 b1 b2 b3 z0 z1 z2 z3
  go_wp2_with fail
  refine hi2.mono ?_
  rintro e y2 ⟨mv, rfl, hmv, hB2⟩
  obtain ⟨ma, mc, rfl⟩ : ∃ a c, mv = .slice a tl.length c := own_shapeN hmv
  obtain ⟨y3, hy3⟩ : ∃ y3, Hid (y3 = y2.alloc (.cells #[.int .i64 tc, .slice ma tl.length mc, .int .i64 tp, .int .i64 tr] 24)) := ⟨_, hiddenI rfl⟩
  have hB3 : Below y2.heap.size y2 y3 := by rw [hy3.out]; exact (Below.refl _ _).alloc (Nat.le_refl _) _
  have hM3 : y3.heap[y2.heap.size]? = some (.cells #[.int .i64 tc, .slice ma tl.length mc, .int .i64 tp, .int .i64 tr] 24) := by rw [hy3.out]; exact heap_alloc_new _ _
  have hs3 : y3.heap.size = y2.heap.size + 1 := by rw [hy3.out]; show (y2.heap.push _).size = _; simp
  obtain ⟨y4, hy4⟩ : ∃ y4, Hid (y4 = y3.alloc (.cells #[.int .i64 tc, .slice ma tl.length mc, .int .i64 tp, .int .i64 tr] 24)) := ⟨_, hiddenI rfl⟩
  have hB4 : Below y3.heap.size y3 y4 := by rw [hy4.out]; exact (Below.refl _ _).alloc (Nat.le_refl _) _
  have hM4 : y4.heap[y2.heap.size + 1]? = some (.cells #[.int .i64 tc, .slice ma tl.length mc, .int .i64 tp, .int .i64 tr] 24) := by rw [hy4.out, ← hs3]; exact heap_alloc_new _ _
  have hm4 := owns_keep (owns_keep hmv hB3) hB4
  have hrp : RowP y4 (.slice (some ⟨y2.heap.size + 1, 0, none⟩) 1 1) [((⟨tc, tl, tp, tr⟩ : It), (.slice ma tl.length mc : Value))] := by
    refine ⟨_, 1, rfl, .inr ⟨_, 0, rfl, (Array.getElem?_eq_some_iff.1 hM4).1, fun j p hp => ?_⟩, fun p hp => ?_⟩
    · cases j with
      | succ j => simp at hp
      | zero =>
        simp at hp
        subst hp
        obtain ⟨h, -⟩ := box4 hM4
        simpa using h
    · obtain rfl := List.mem_singleton.1 hp
      exact sl_of_owns hm4
  have hnew := new_c _ _ y4 hrp (by simp) (fun p hp => by obtain rfl := List.mem_singleton.1 hp; show tl.length ≤ _; omega)
  obtain ⟨⟨e0, e1, e2, e3⟩, -⟩ := box4 hM3
  have hMh := hiddenI (box_below hM3 hB4)
  have hmh := hiddenI hmv
  have hm4h := hiddenI hm4
  have hB24 := hiddenI (hB3.trans (hB4.mono (by omega)))
  have hB2h := hiddenI hB2
  replace hs3 := hiddenI hs3
  clear hi2 hmv hB2 hB3 hB4 hM3 hM4 hm4 hrp d0 d1 d2 d3
  go_wp2_with fail
  rw [← hy3.out]
  go_wp2_with fail
  rw [← hy4.out]
  refine hnew.mono ?_
  rintro e y5 ⟨b, zs, rfl, hH5, hp5, -, hB5⟩
  obtain ⟨g, cap, L, hL, hLm⟩ := HeapL.of hH5
  obtain rfl : zs = [⟨tc, tl, tp, tr⟩] := by
    have h1 : zs.Perm (List.replicate 1 ⟨tc, tl, tp, tr⟩) := hp5
    exact List.perm_replicate.1 h1
  have hL1 : L.length = 1 := by have := congrArg List.length hLm; simpa using this
  have hM5 := box_below hMh.out hB5
  obtain ⟨⟨i0, i1, i2, i3⟩, -⟩ := box4 hM5
  have hm5 := owns_keep hm4h.out hB5
  have hm5h : Hid (y5.ownsRow y1.heap.size 3 1 (.slice ma tl.length mc) tl.length (ints tl) ∧ (Value.slice ma tl.length mc).ownBlock ≠ some b ∧ (Value.slice ma tl.length mc).ownBlock ≠ some g) := by
    obtain ⟨cur, hc⟩ := hL.block
    exact ⟨hm5, row_ne hm5 hL.box (by decide), row_ne hm5 hc (by decide)⟩
  have hpush := push_c ⟨tc, tl, tp, tr⟩ (.slice ma tl.length mc) y5 hL (sl_of_owns hm5) (by show tl.length ≤ _; omega) (by omega) (fun p hp => by
    have h1 : p.1 ∈ L.map (·.1) := List.mem_map_of_mem hp
    rw [hLm] at h1
    rw [List.mem_singleton.1 h1]; show tl.length ≤ _; omega) (fun j h1 h2 => by omega)
  rw [hLm] at hpush
  simp only [itV] at hpush
  have hM5h := hiddenI hM5
  have hB5h := hiddenI hB5
  clear hnew hH5 hp5 hLm hL1 hm5 hM5 hB5 e0 e1 e2 e3 hL
  go_wp2_with fail
  refine hpush.mono ?_
  rintro e y6 ⟨rfl, g6, cap6, L6, hH6, hp6, -, -, hB6, hS6⟩
  have hLm6 : L6.map (·.1) = [⟨tc, tl, tp, tr⟩, ⟨tc, tl, tp, tr⟩] := by
    have h1 : (L6.map (·.1)).Perm (List.replicate 2 ⟨tc, tl, tp, tr⟩) := hp6
    exact List.perm_replicate.1 h1
  have hA6 := hH6.at
  rw [hLm6] at hA6
  have hpeek := peek_c _ b _ _ y6 hA6 (by show tl.length ≤ _; omega)
  simp only [itV] at hpeek
  have hy46 : Hid (y4.heap.size ≤ y6.heap.size) := Nat.le_trans hB5h.out.size hS6.size
  have hM6 : Hid (y6.heap[y2.heap.size]? = some (.cells #[.int .i64 tc, .slice ma tl.length mc, .int .i64 tp, .int .i64 tr] 24)) := (hB6.block _ (by have := (Array.getElem?_eq_some_iff.1 hMh.out).1; exact this)).trans hM5h.out
  have hm6 := hiddenI (own_save2 hm5h.out.1 hS6 hm5h.out.2.1 hm5h.out.2.2)
  have hy12 : Hid (y1.heap.size ≤ y2.heap.size ∧ y2.heap.size ≤ y4.heap.size) := ⟨hB2h.out.size, hB24.out.size⟩
  have hB16 : Hid (Below y1.heap.size y1 y6) := by
    have h1 := hy12.out.1
    have h2 := hy12.out.2
    exact ((hB2h.out.trans (hB24.out.mono h1)).trans (hB5h.out.mono (by omega))).trans (hB6.mono (by omega))
  have hgm : Hid (∀ gg, (Value.slice ma tl.length mc).ownBlock = some gg → gg < y4.heap.size) := fun gg h => by
    have h1 := (hmh.out.lt _ h).2
    have h2 := hy12.out.2
    omega
  have hHh := hiddenI hH6
  replace hLm6 := hiddenI hLm6
  clear hpush hH6 hp6 hB6 hS6 hA6 hm5h hM5h hB5h hMh hmh hm4h hB24 hB2h i0 i1 i2 i3 hs3
  go_wp2_with fail
  refine hpeek.mono ?_
  rintro e y7 ⟨pv, rfl, hpv, hB7⟩
  obtain ⟨pa, pc, rfl⟩ : ∃ a c, pv = .slice a tl.length c := own_shapeN hpv
  obtain ⟨y8, hy8⟩ : ∃ y8, Hid (y8 = y7.alloc (.cells #[.int .i64 tc, .slice pa tl.length pc, .int .i64 tp, .int .i64 tr] 24)) := ⟨_, hiddenI rfl⟩
  have hB8 : Below y7.heap.size y7 y8 := by rw [hy8.out]; exact (Below.refl _ _).alloc (Nat.le_refl _) _
  have hP8 : y8.heap[y7.heap.size]? = some (.cells #[.int .i64 tc, .slice pa tl.length pc, .int .i64 tp, .int .i64 tr] 24) := by rw [hy8.out]; exact heap_alloc_new _ _
  have hB68 : Below y6.heap.size y6 y8 := hB7.trans (hB8.mono hB7.size)
  have hA8 := (hHh.out.step hB68).at
  rw [hLm6.out] at hA8
  have hlist := heaplist_c _ b _ y8 hA8 (by simp) (fun z hz => by
    simp only [List.mem_cons, List.not_mem_nil, or_false, or_self] at hz
    rw [hz]; show tl.length ≤ _; omega)
  have hB68h := hiddenI hB68
  have hP8h := hiddenI hP8
  have hpvh := hiddenI (owns_keep hpv hB8)
  clear hpeek hpv hB7 hB8 hP8 hB68 hA8
  go_wp2_with fail
  rw [← hy8.out]
  go_wp2_with fail
  refine hlist.mono ?_
  rintro e y9 ⟨L9, zs9, rfl, hL9, hR9, hp9, -, hB9⟩
  obtain rfl : zs9 = [⟨tc, tl, tp, tr⟩, ⟨tc, tl, tp, tr⟩] := by
    have h1 : zs9.Perm (List.replicate 2 ⟨tc, tl, tp, tr⟩) := hp9
    exact List.perm_replicate.1 h1
  have hL92 : L9.length = 2 := hL9
  have hB69 : Below y6.heap.size y6 y9 := hB68h.out.trans (hB9.mono hB68h.out.size)
  have hO : Hid (OwnS y1 y6 y4.heap.size y2.heap.size y7.heap.size ⟨tc, tl, tp, tr⟩ (.slice ma tl.length mc) (.slice pa tl.length pc) y8.heap.size 2 tl.length L9 y9) := by
    have h1 := hy12.out
    have h2 := hy46.out
    have hrow := hR9.row
    refine ⟨hB16.out.trans (hB69.mono hB16.out.size), fun k hk1 hk2 => hB69.block k hk2, by omega, h2, box_below hM6.out hB69, box_below hP8h.out hB9, (spRow_of hm6.out fun gg e1 e2 => ⟨e2, hgm.out gg e1⟩).below hB69, (spRow_of hpvh.out fun gg _ e2 => e2).below hB9, ?_, fun p hp => ?_⟩
    · rw [hL92] at hrow ⊢
      exact owns_base hrow (Nat.zero_le _)
    · obtain ⟨j, hj, rfl⟩ := List.mem_iff_getElem.1 hp
      obtain ⟨e1, e2⟩ := hR9.its j (by rw [hL92] at hj; exact hj)
      have e : L9.getD j pr0 = L9[j] := by simp [List.getD, hj]
      have e3 : ([⟨tc, tl, tp, tr⟩, ⟨tc, tl, tp, tr⟩] : List It).getD j It.none = ⟨tc, tl, tp, tr⟩ := by
        rw [hL92] at hj
        rcases (show j = 0 ∨ j = 1 by omega) with rfl | rfl <;> rfl
      rw [e, e3] at e2
      exact spRow_of e2 fun gg _ h3 => by have := hB68h.out.size; omega
  have hX9 : Hid (∀ y, OwnS y1 y6 y4.heap.size y2.heap.size y7.heap.size ⟨tc, tl, tp, tr⟩ (.slice ma tl.length mc) (.slice pa tl.length pc) y8.heap.size 2 tl.length L9 y →
      Below w.heap.size w y ∧ y.heap[w.heap.size]? = some (.cells #[.int .i64 tc, .slice xa xn xc, .int .i64 tp, .int .i64 tr] 24) ∧ Holds y (.slice xa xn xc) (tl.map (Value.int .i64)) ∧ HeapAt y4.heap.size y b [⟨tc, tl, tp, tr⟩, ⟨tc, tl, tp, tr⟩]) := fun y h => by
    have hA := (hHh.out.mid h.mid).at
    rw [hLm6.out] at hA
    exact ⟨hByh.out.trans (h.low.mono hByh.out.size), box_below hXyh.out h.low, (holds_of_owns hxyh.out).below h.low, hA⟩
  replace hL92 := hiddenI hL92
  clear hlist hL9 hR9 hp9 hB9 hB69 hB68h hP8h hpvh hM6 hm6 hHh hLm6 hgm hB16 hy12 hy46 hXyh hByh hxyh
  go_wp2_with fail
  go_loopw [8] (fun i y => ∃ k : Nat, k ≤ tl.length ∧ i = .int .i64 k ∧ Hid (OwnS y1 y6 y4.heap.size y2.heap.size y7.heap.size ⟨tc, tl, tp, tr⟩ (.slice ma tl.length mc) (.slice pa tl.length pc) y8.heap.size 2 tl.length L9 y)) (fun i _ => tl.length - (intOf i).toNat)
  case atStart => exact ⟨0, Nat.zero_le _, rfl, hO⟩
  case round =>
    clear hO
    obtain ⟨k, hk, rfl, hO⟩ := hrel
    obtain ⟨⟨m0, m1, m2, m3⟩, -⟩ := box4 hO.out.hM
    obtain ⟨⟨p0, p1, p2, p3⟩, -⟩ := box4 hO.out.hP
    by_cases hlt : k < tl.length
    · have hlt' : (k : Int) < (tl.length : Int) := by omega
      obtain ⟨g1, cur1, u1, rfl, hok1, hb1, c1, f1⟩ := hO.out.rm.cell hlt
      obtain ⟨g2, cur2, u2, rfl, hok2, hb2, c2, f2⟩ := hO.out.rp.cell hlt
      have hne : ¬ g1 = g2 := by have := hO.out.le2; omega
      have hne' : ¬ g2 = g1 := by omega
      have n1 : ¬ g1 = y7.heap.size := ne_types hb1 hO.out.hP (by decide)
      have n2 : ¬ g1 = y2.heap.size := ne_types hb1 hO.out.hM (by decide)
      have n3 : ¬ g2 = y7.heap.size := ne_types hb2 hO.out.hP (by decide)
      have n4 : ¬ g2 = y2.heap.size := ne_types hb2 hO.out.hM (by decide)
      have hset := hiddenI ((hO.out.set hb1 (.inl hok1) k 77).set ((heap_oI hne).trans hb2) (.inr hok2) k 78).drew
      clear hO hok1 hok2 hb1 hb2 m0 m2 m3 p0 p2 p3
      go_wp2_with fail
      go_region
      all_goals
        go_wp2
        go_roundw
        case rel => exact ⟨k + 1, by omega, by go_num, hset⟩
        case measure => simp [intOf]; omega
    · have hlt' : ¬ (k : Int) < (tl.length : Int) := by omega
      clear m0 m2 m3 p0 p2 p3 p1 hlt hk
      go_wp2_with fail
      go_loopw [9] (fun i y => ∃ k : Nat, k ≤ 2 ∧ i = .int .i64 k ∧ Hid (OwnS y1 y6 y4.heap.size y2.heap.size y7.heap.size ⟨tc, tl, tp, tr⟩ (.slice ma tl.length mc) (.slice pa tl.length pc) y8.heap.size 2 tl.length L9 y)) (fun i _ => 2 - (intOf i).toNat)
      case atStart => exact ⟨0, by omega, rfl, hO⟩
      case round =>
        clear hO m1
        obtain ⟨k, hk, rfl, hO⟩ := hrel
        by_cases hk2 : k < 2
        · have hk2' : (k : Int) < 2 := by omega
          have hkl : k < L9.length := by rw [hL92.out]; exact hk2
          have hat := hO.out.at hkl
          have hrl := hO.out.rl _ (getD_mem hkl)
          generalize (L9.getD k pr0).2 = qv at *
          obtain ⟨qa, qc, rfl, -⟩ := id hrl
          by_cases hn0 : 0 < tl.length
          · have hn0' : (tl.length : Int) > 0 := by omega
            have hn0'' : (0 : Int) < (tl.length : Int) := by omega
            obtain ⟨g3, cur3, u3, rfl, hok3, hb3, c3, f3⟩ := hrl.cell hn0
            have hset := hiddenI (hO.out.set hb3 (.inr hok3) 0 79)
            clear hO hrl hok3 hb3
            go_wp2
            go_roundw
            case rel => exact ⟨k + 1, by omega, by go_num, hset⟩
            case measure => simp [intOf]; omega
          · have hn0' : ¬ (tl.length : Int) > 0 := by omega
            obtain ⟨hBf, hXf, hxf, hAf⟩ := hX9.out _ hO.out
            clear hO hrl hX9
            go_wp2_with fail
            have hkt : tl.length ≤ 1000 := by omega
            have hlst := fun (z : World) (hz : Below wr.heap.size wr z) => list2_c z (hAf.step hz) hkt
            obtain ⟨⟨x0, x1, x2, x3⟩, -⟩ := box4 hXf
            have hXfh := hiddenI hXf
            have hBfh := hiddenI hBf
            have hxfh := hiddenI hxf
            have kk : Hid (Below wr.heap.size wr wr.drew) := (Below.refl _ _).drew
            have nx := World.new_ne _ _ x0
            clear hBf hXf hxf hAf
            go_region_held3 (fun z => z.cell? ⟨w.heap.size, 0, none⟩ = some (.int .i64 tc) ∧ z.cell? ⟨w.heap.size, 1, none⟩ = some (.slice xa xn xc) ∧ z.cell? ⟨w.heap.size, 2, none⟩ = some (.int .i64 tp) ∧ z.cell? ⟨w.heap.size, 3, none⟩ = some (.int .i64 tr)) (go_keep) (first
              | (go_at_call 10; refine (hlst _ (by first | exact kk.out | exact kk.out.alloc kk.out.size _)).mono ?_; rintro e z1 ⟨lv, rfl, hlv1, hB1⟩
                 have kk1 : Hid (Below wr.heap.size wr z1) := by first | exact kk.out.trans (hB1.mono kk.out.size) | exact (kk.out.alloc kk.out.size _).trans (hB1.mono (kk.out.alloc kk.out.size _).size)
                 obtain ⟨⟨q0, q1, q2, q3⟩, -⟩ := box4 (box_below hXfh.out kk1.out)
                 have nq := World.new_ne _ _ q0
                 replace hlv1 := hiddenI hlv1
                 first
                   | (have bq : Hid (z1.heap[wr.heap.size]? = some (.cells #[.int .i64 tc, .slice xa xn xc, .int .i64 tp, .int .i64 tr, .int .i64 tc, .slice xa xn xc, .int .i64 tp, .int .i64 tr] 24)) := box_below (heap_alloc_new wr.drew (.cells #[.int .i64 tc, .slice xa xn xc, .int .i64 tp, .int .i64 tr, .int .i64 tc, .slice xa xn xc, .int .i64 tp, .int .i64 tr] 24)) hB1
                      clear hB1)
                   | clear hB1)
              | (go_at_call 11
                 first
                   | refine (same2_c (t := ⟨tc, tl, tp, tr⟩) hlv1.out (two_items bq.out (hxfh.out.below kk1.out)) hkt).mono ?_
                   | refine (same2_c (t := ⟨tc, tl, tp, tr⟩) (hlv1.out.below ((Below.refl _ _).alloc (Nat.le_refl _) _)) (two_items (heap_alloc_new z1 _) (hxfh.out.below (kk1.out.alloc kk1.out.size _))) hkt).mono ?_
                 rintro e z2 ⟨rfl, hB2⟩
                 have kk2 : Hid (Below wr.heap.size wr z2) := by first | exact kk1.out.trans (hB2.mono kk1.out.size) | exact (kk1.out.alloc kk1.out.size _).trans (hB2.mono (kk1.out.alloc kk1.out.size _).size)
                 clear hB2
                 obtain ⟨⟨r0, r1, r2, r3⟩, -⟩ := box4 (box_below hXfh.out kk2.out))
              | (go_at_call 12; refine (hlv _).mono ?_; rintro e z3 ⟨rfl, hC3⟩
                 have kk3 := hiddenI ((GoX.Calm.of_below (hBfh.out.trans (kk2.out.mono hBfh.out.size))).trans hC3)
                 obtain ⟨⟨s0, s1, s2, s3⟩, -⟩ := box4 ((hC3.block _ (Array.getElem?_eq_some_iff.1 (box_below hXfh.out kk2.out)).1).trans (box_below hXfh.out kk2.out))
                 clear hC3)
              | fail)
            all_goals
              go_wp2
              go_ret
              exact ⟨rfl, kk3.out⟩
        · have hk2' : ¬ (k : Int) < 2 := by omega
          obtain ⟨hBf, hXf, hxf, hAf⟩ := hX9.out _ hO.out
          clear hO hX9
          go_wp2_with fail
          have hkt : tl.length ≤ 1000 := by omega
          have hlst := fun (z : World) (hz : Below wr.heap.size wr z) => list2_c z (hAf.step hz) hkt
          obtain ⟨⟨x0, x1, x2, x3⟩, -⟩ := box4 hXf
          have hXfh := hiddenI hXf
          have hBfh := hiddenI hBf
          have hxfh := hiddenI hxf
          have kk : Hid (Below wr.heap.size wr wr.drew) := (Below.refl _ _).drew
          have nx := World.new_ne _ _ x0
          clear hBf hXf hxf hAf
          go_region_held3 (fun z => z.cell? ⟨w.heap.size, 0, none⟩ = some (.int .i64 tc) ∧ z.cell? ⟨w.heap.size, 1, none⟩ = some (.slice xa xn xc) ∧ z.cell? ⟨w.heap.size, 2, none⟩ = some (.int .i64 tp) ∧ z.cell? ⟨w.heap.size, 3, none⟩ = some (.int .i64 tr)) (go_keep) (first
            | (go_at_call 10; refine (hlst _ (by first | exact kk.out | exact kk.out.alloc kk.out.size _)).mono ?_; rintro e z1 ⟨lv, rfl, hlv1, hB1⟩
               have kk1 : Hid (Below wr.heap.size wr z1) := by first | exact kk.out.trans (hB1.mono kk.out.size) | exact (kk.out.alloc kk.out.size _).trans (hB1.mono (kk.out.alloc kk.out.size _).size)
               obtain ⟨⟨q0, q1, q2, q3⟩, -⟩ := box4 (box_below hXfh.out kk1.out)
               have nq := World.new_ne _ _ q0
               replace hlv1 := hiddenI hlv1
               first
                 | (have bq : Hid (z1.heap[wr.heap.size]? = some (.cells #[.int .i64 tc, .slice xa xn xc, .int .i64 tp, .int .i64 tr, .int .i64 tc, .slice xa xn xc, .int .i64 tp, .int .i64 tr] 24)) := box_below (heap_alloc_new wr.drew (.cells #[.int .i64 tc, .slice xa xn xc, .int .i64 tp, .int .i64 tr, .int .i64 tc, .slice xa xn xc, .int .i64 tp, .int .i64 tr] 24)) hB1
                    clear hB1)
                 | clear hB1)
            | (go_at_call 11
               first
                 | refine (same2_c (t := ⟨tc, tl, tp, tr⟩) hlv1.out (two_items bq.out (hxfh.out.below kk1.out)) hkt).mono ?_
                 | refine (same2_c (t := ⟨tc, tl, tp, tr⟩) (hlv1.out.below ((Below.refl _ _).alloc (Nat.le_refl _) _)) (two_items (heap_alloc_new z1 _) (hxfh.out.below (kk1.out.alloc kk1.out.size _))) hkt).mono ?_
               rintro e z2 ⟨rfl, hB2⟩
               have kk2 : Hid (Below wr.heap.size wr z2) := by first | exact kk1.out.trans (hB2.mono kk1.out.size) | exact (kk1.out.alloc kk1.out.size _).trans (hB2.mono (kk1.out.alloc kk1.out.size _).size)
               clear hB2
               obtain ⟨⟨r0, r1, r2, r3⟩, -⟩ := box4 (box_below hXfh.out kk2.out))
            | (go_at_call 12; refine (hlv _).mono ?_; rintro e z3 ⟨rfl, hC3⟩
               have kk3 := hiddenI ((GoX.Calm.of_below (hBfh.out.trans (kk2.out.mono hBfh.out.size))).trans hC3)
               obtain ⟨⟨s0, s1, s2, s3⟩, -⟩ := box4 ((hC3.block _ (Array.getElem?_eq_some_iff.1 (box_below hXfh.out kk2.out)).1).trans (box_below hXfh.out kk2.out))
               clear hC3)
            | fail)
          all_goals
            go_wp2
            go_ret
            exact ⟨rfl, kk3.out⟩
end Go.Proofs.Ytapdkdfgjjdbkaa
