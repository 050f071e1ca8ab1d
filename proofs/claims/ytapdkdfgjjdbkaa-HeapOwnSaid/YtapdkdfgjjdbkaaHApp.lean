/-
  A HEAP'S ORDER: mathematics alone.
-/
import Derived.Test.YtapdkdfgjjdbkaaIOrd
import Derived.Test.YtapdkdfgjjdbkaaHAll
import Derived.BigRegion
import Derived.Test.YtapdkdfgjjdbkaaHPeek
import Derived.Maps.AppendAt
import Derived.Deep.RegionHeld3
import Derived.Deep.AppendLies
namespace Go.Proofs.Ytapdkdfgjjdbkaa
open Go.ChangeShapes Go.WideShapes Go.ChangeAt Go.RowKit

/-- x may stand ahead of y. -/
def le (x y : It) : Prop := ¬ icmp y x < 0
theorem cmpI_zero {a b : Int} (h : cmpI a b = 0) : a = b := by
  unfold cmpI at h
  by_cases h1 : a < b
  · simp [h1] at h
  · by_cases h2 : b < a
    · simp [h1, h2] at h
    · omega
theorem lcmp_zero : ∀ {x y : List Int}, lcmp x y = 0 → x = y
  | [], [], _ => rfl
  | [], _ :: _, h => by simp [lcmp] at h
  | _ :: _, [], h => by simp [lcmp] at h
  | a :: x, b :: y, h => by
    simp only [lcmp] at h
    by_cases h1 : a < b
    · simp [h1] at h
    · by_cases h2 : b < a
      · simp [h1, h2] at h
      · simp only [h1, h2, if_false] at h
        rw [lcmp_zero h, show a = b by omega]
/-- Of one order are equal items alone. -/
theorem icmp_zero {x y : It} (h : icmp x y = 0) : x = y := by
  obtain ⟨c, l, p, r⟩ := x
  obtain ⟨c', l', p', r'⟩ := y
  simp only [icmp, orS] at h
  by_cases h1 : cmpI c c' = 0
  · rw [if_pos h1] at h
    by_cases h2 : lcmp l l' = 0
    · rw [if_pos h2] at h
      by_cases h3 : cmpI p p' = 0
      · rw [if_pos h3] at h
        rw [cmpI_zero h1, lcmp_zero h2, cmpI_zero h3, cmpI_zero h]
      · rw [if_neg h3] at h; exact absurd h h3
    · rw [if_neg h2] at h; exact absurd h h2
  · rw [if_neg h1] at h; exact absurd h h1
theorem le_refl (x : It) : le x x := by simp [le, icmp_self]
theorem le_trans {x y z : It} (h1 : le x y) (h2 : le y z) : le x z := by
  unfold le at *
  have := (T3.item x y z (by have := icmp_anti x y; omega) (by have := icmp_anti y z; omega)).1
  have := icmp_anti x z
  omega
theorem le_of_lt {x y : It} (h : icmp x y < 0) : le x y := by
  have := icmp_anti x y
  unfold le; omega
theorem le_anti {x y : It} (h1 : le x y) (h2 : le y x) : x = y := by
  unfold le at *
  have := icmp_anti x y
  exact icmp_zero (by omega)
/-- A heap: none stands ahead of the one at half its place. -/
def Up (f : Nat → It) (n : Nat) : Prop := ∀ j, 0 < j → j < n → le (f ((j - 1) / 2)) (f j)
/-- A heap, but for the one at i. -/
def UpBut (f : Nat → It) (n i : Nat) : Prop := (∀ j, 0 < j → j < n → j ≠ i → le (f ((j - 1) / 2)) (f j)) ∧ (0 < i → ∀ j, 0 < j → j < n → (j - 1) / 2 = i → le (f ((i - 1) / 2)) (f j))
def DownBut (f : Nat → It) (n i : Nat) : Prop := (∀ j, 0 < j → j < n → (j - 1) / 2 ≠ i → le (f ((j - 1) / 2)) (f j)) ∧ (0 < i → ∀ j, 0 < j → j < n → (j - 1) / 2 = i → le (f ((i - 1) / 2)) (f j))
def swapF (f : Nat → It) (i j : Nat) : Nat → It := fun k => if k = j then f i else if k = i then f j else f k
theorem UpBut.start {f : Nat → It} {n : Nat} (h : Up f n) : UpBut f (n + 1) n :=
  ⟨fun j h0 h1 h2 => h j h0 (by omega), fun _ j _ _ _ => by omega⟩
theorem UpBut.rise {f : Nat → It} {n i : Nat} (h : UpBut f n i) (h0 : 0 < i) (hi : i < n) (hlt : icmp (f i) (f ((i - 1) / 2)) < 0) : UpBut (swapF f i ((i - 1) / 2)) n ((i - 1) / 2) := by
  obtain ⟨h1, h2⟩ := h
  have hp : (i - 1) / 2 < i := by omega
  generalize hq : (i - 1) / 2 = p at *
  refine ⟨fun j j0 jn jp => ?_, fun p0 j j0 jn jp => ?_⟩
  · by_cases e1 : j = i
    · subst e1
      rw [hq]
      simp only [swapF, if_pos, if_neg (show ¬ j = p by omega)]
      exact le_of_lt hlt
    · by_cases e2 : (j - 1) / 2 = i
      · rw [e2]
        simp only [swapF, if_neg jp, if_neg e1, if_neg (show ¬ i = p by omega), if_pos]
        exact h2 h0 j j0 jn e2
      · by_cases e3 : (j - 1) / 2 = p
        · rw [e3]
          simp only [swapF, if_neg jp, if_neg e1, if_pos]
          have := h1 j j0 jn e1
          rw [e3] at this
          exact le_trans (le_of_lt hlt) this
        · simp only [swapF, if_neg jp, if_neg e1, if_neg e2, if_neg e3]
          exact h1 j j0 jn e1
  · have e1 : ¬ (p - 1) / 2 = p := by omega
    have e2 : ¬ (p - 1) / 2 = i := by omega
    have h3 := h1 p p0 (by omega) (by omega)
    by_cases e3 : j = i
    · subst e3
      simp only [swapF, if_neg e1, if_neg e2, if_neg (show ¬ j = p by omega), if_pos]
      exact h3
    · simp only [swapF, if_neg e1, if_neg e2, if_neg (show ¬ j = p by omega), if_neg e3]
      have := h1 j j0 jn e3
      rw [jp] at this
      exact le_trans h3 this
theorem UpBut.done {f : Nat → It} {n i : Nat} (h : UpBut f n i) (hlt : 0 < i → ¬ icmp (f i) (f ((i - 1) / 2)) < 0) : Up f n := fun j h0 h1 => by
  by_cases e : j = i
  · subst e; exact hlt h0
  · exact h.1 j h0 h1 e
theorem DownBut.start {f : Nat → It} {n : Nat} (h : ∀ j, 0 < j → j < n → (j - 1) / 2 ≠ 0 → le (f ((j - 1) / 2)) (f j)) : DownBut f n 0 := ⟨h, fun h => by omega⟩
theorem DownBut.sink {f : Nat → It} {n i c : Nat} (h : DownBut f n i) (hc0 : 0 < c) (hc : c < n) (hi : (c - 1) / 2 = i) (hlt : icmp (f c) (f i) < 0) (hb : ∀ j, 0 < j → j < n → (j - 1) / 2 = i → le (f c) (f j)) : DownBut (swapF f i c) n c := by
  obtain ⟨h1, h2⟩ := h
  have hic : i < c := by omega
  refine ⟨fun j j0 jn jc => ?_, fun p0 j j0 jn jp => ?_⟩
  · by_cases e1 : j = c
    · subst e1
      rw [hi]
      simp only [swapF, if_pos, if_neg (show ¬ i = j by omega)]
      exact le_of_lt hlt
    · by_cases e2 : (j - 1) / 2 = i
      · rw [e2]
        simp only [swapF, if_neg e1, if_neg (show ¬ i = c by omega), if_pos, if_neg (show ¬ j = i by omega)]
        exact hb j j0 jn e2
      · by_cases e3 : j = i
        · subst e3
          simp only [swapF, if_neg jc, if_neg e1, if_neg e2, if_pos]
          exact h2 j0 c hc0 hc hi
        · simp only [swapF, if_neg jc, if_neg e1, if_neg e2, if_neg e3]
          exact h1 j j0 jn e2
  · have e1 : ¬ j = c := by omega
    have e2 : ¬ j = i := by omega
    have h3 := h1 j j0 jn (by omega)
    rw [jp] at h3
    rw [hi]
    simp only [swapF, if_neg e1, if_neg e2, if_neg (show ¬ i = c by omega), if_pos]
    exact h3
theorem DownBut.done {f : Nat → It} {n i : Nat} (h : DownBut f n i) (hb : ∀ j, 0 < j → j < n → (j - 1) / 2 = i → le (f i) (f j)) : Up f n := fun j h0 h1 => by
  by_cases e : (j - 1) / 2 = i
  · rw [e]; exact hb j h0 h1 e
  · exact h.1 j h0 h1 e
/-- The first of a heap stands ahead of all. -/
theorem Up.least {f : Nat → It} {n : Nat} (h : Up f n) : ∀ j, j < n → le (f 0) (f j) := by
  intro j
  induction j using Nat.strongRecOn with
  | ind j ih =>
    intro hj
    by_cases h0 : j = 0
    · subst h0; exact le_refl _
    · exact le_trans (ih ((j - 1) / 2) (by omega) (by omega)) (h j (by omega) hj)
theorem Up.of_rising {f : Nat → It} {n : Nat} (h : ∀ i j, i < j → j < n → 0 ≤ icmp (f j) (f i)) : Up f n := fun j h0 h1 => by
  have := h ((j - 1) / 2) j (by omega) h1
  unfold le; omega
end Go.Proofs.Ytapdkdfgjjdbkaa
/-
  TWO ITEMS OF A HEAP CHANGE PLACES, by contract.
-/
namespace Go.Proofs.Ytapdkdfgjjdbkaa
open Go.ChangeShapes Go.WideShapes Go.ChangeAt Go.RowKit

/-- An item stored. -/
def put4 (w : World) (g k : Nat) (p : Pr) : World := (((w.setCell ⟨g, k * 4, none⟩ (.int .i64 p.1.c)).setCell ⟨g, k * 4 + 1, none⟩ p.2).setCell ⟨g, k * 4 + 2, none⟩ (.int .i64 p.1.p)).setCell ⟨g, k * 4 + 3, none⟩ (.int .i64 p.1.r)
set_option maxHeartbeats 1600000 in
set_option maxRecDepth 100000 in
theorem swap_c (b g n cap i j : Nat) (p q : Pr) (w : World) (hc : w.cell? ⟨b, 0, none⟩ = some (.slice (some ⟨g, 0, none⟩) n cap)) (hi : i < n) (hj : j < n) (hz : ∀ k, w.frozen? ⟨g, k, none⟩ = false) (hp : ∃ a m c, p.2 = .slice a m c) (hq : ∃ a m c, q.2 = .slice a m c)
    (p0 : w.cell? ⟨g, i * 4, none⟩ = some (.int .i64 p.1.c)) (p1 : w.cell? ⟨g, i * 4 + 1, none⟩ = some p.2) (p2 : w.cell? ⟨g, i * 4 + 2, none⟩ = some (.int .i64 p.1.p)) (p3 : w.cell? ⟨g, i * 4 + 3, none⟩ = some (.int .i64 p.1.r))
    (q0 : w.cell? ⟨g, j * 4, none⟩ = some (.int .i64 q.1.c)) (q1 : w.cell? ⟨g, j * 4 + 1, none⟩ = some q.2) (q2 : w.cell? ⟨g, j * 4 + 2, none⟩ = some (.int .i64 q.1.p)) (q3 : w.cell? ⟨g, j * 4 + 3, none⟩ = some (.int .i64 q.1.r)) :
    Calls Try.prog 25 #[.pointer (some ⟨b, 0, none⟩), .int .i64 i, .int .i64 j] w fun e w' => e = .returned (.tuple #[]) ∧ w' = (put4 (put4 w g i q) g j p).drew := by
  obtain ⟨⟨pc, pl, pp, pr⟩, pv⟩ := p
  obtain ⟨⟨qc, ql, qp, qr⟩, qv⟩ := q
  obtain ⟨pa, pm, pk, hp⟩ := hp
  simp only at hp
  subst hp
  obtain ⟨qa, qm, qk, hq⟩ := hq
  simp only at hq
  subst hq
  unfold put4
  have z0 := hz (i * 4)
  have z1 := hz (i * 4 + 1)
  have z2 := hz (i * 4 + 2)
  have z3 := hz (i * 4 + 3)
  have y0 := hz (j * 4)
  have y1 := hz (j * 4 + 1)
  have y2 := hz (j * 4 + 2)
  have y3 := hz (j * 4 + 3)
  clear hz
  simp only at p0 p1 p2 p3 q0 q1 q2 q3 ⊢
  have hi' : (i : Int) < (n : Int) := by omega
  have hj' : (j : Int) < (n : Int) := by omega
  by_cases hij : i = j
  · subst hij
    rw [p0] at q0
    rw [p1] at q1
    rw [p2] at q2
    rw [p3] at q3
    simp only [Option.some.injEq, Value.int.injEq, true_and] at q0 q1 q2 q3
    subst q0
    subst q2
    subst q3
    rw [← q1]
    clear q1 y0 y1 y2 y3
    go_enter Try.func25, Try.ntmps25
    go_region
    all_goals (go_end0; exact ⟨rfl, rfl⟩)
  have d1 : ¬ i * 4 = j * 4 := by omega
  have d2 : ¬ j * 4 = i * 4 := by omega
  have d3 : ¬ j = i := by omega
  go_enter Try.func25, Try.ntmps25
  go_region
  all_goals (go_end0; exact ⟨rfl, rfl⟩)
theorem hz_put {w : World} {g k : Nat} {p : Pr} {x : Addr} : (put4 w g k p).frozen? x = w.frozen? x := by
  simp [put4]
theorem put4_other {w : World} {g k b : Nat} {p : Pr} (h : g ≠ b) : (put4 w g k p).heap[b]? = w.heap[b]? := by
  unfold put4
  rw [heap_oI h, heap_oI h, heap_oI h, heap_oI h]
theorem below_put4 {B : Nat} {a w : World} (h : Below B a w) {g : Nat} (hg : B ≤ g) (k : Nat) (p : Pr) : Below B a (put4 w g k p) :=
  (((h.setCell (p := ⟨g, k * 4, none⟩) hg _).setCell (p := ⟨g, k * 4 + 1, none⟩) hg _).setCell (p := ⟨g, k * 4 + 2, none⟩) hg _).setCell (p := ⟨g, k * 4 + 3, none⟩) hg _
end Go.Proofs.Ytapdkdfgjjdbkaa
/-
  A HEAP's ITEMS, IN WHATEVER ORDER THEY LIE: what stays as they change places.
-/
namespace Go.Proofs.Ytapdkdfgjjdbkaa
open Go.ChangeShapes Go.WideShapes Go.ChangeAt Go.RowKit

/-- A heap: its box, its row, its items' rows. -/
structure HeapL (B : Nat) (w : World) (b g cap : Nat) (L : List Pr) : Prop where
  hb : B ≤ b
  hg : B ≤ g
  box : w.heap[b]? = some (.cells #[.slice (some ⟨g, 0, none⟩) L.length cap] 47)
  row : w.ownsRow B 24 4 (.slice (some ⟨g, 0, none⟩) L.length cap) L.length (encs L)
  its : ∀ p ∈ L, w.ownsRow B 3 1 p.2 p.1.l.length (ints p.1.l)
theorem HeapL.cell {B : Nat} {w : World} {b g cap : Nat} {L : List Pr} (h : HeapL B w b g cap L) : w.cell? ⟨b, 0, none⟩ = some (.slice (some ⟨g, 0, none⟩) L.length cap) := by simp [World.cell?, h.box]
theorem HeapL.block {B : Nat} {w : World} {b g cap : Nat} {L : List Pr} (h : HeapL B w b g cap L) : ∃ cur, w.heap[g]? = some (.cells cur 24) := by
  rcases h.row.2 with ⟨e, _⟩ | ⟨g', cap', cur, e, _, hc, _⟩
  · cases e
  · simp only [Value.slice.injEq, Option.some.injEq, Addr.mk.injEq, and_true] at e
    obtain ⟨rfl, _⟩ := e
    exact ⟨cur, hc⟩
theorem HeapL.ne {B : Nat} {w : World} {b g cap : Nat} {L : List Pr} (h : HeapL B w b g cap L) : g ≠ b := fun e => by
  obtain ⟨cur, hc⟩ := h.block
  rw [e, h.box] at hc
  injection hc with hc
  injection hc with _ hc _
  exact absurd hc (by decide)
theorem HeapL.step {B : Nat} {w z : World} {b g cap : Nat} {L : List Pr} (h : HeapL B w b g cap L) (hB : Below w.heap.size w z) : HeapL B z b g cap L :=
  ⟨h.hb, h.hg, (hB.block _ (Array.getElem?_eq_some_iff.1 h.box).1).trans h.box, owns_keep h.row hB, fun p hp => owns_keep (h.its p hp) hB⟩
theorem HeapL.drew {B : Nat} {w : World} {b g cap : Nat} {L : List Pr} (h : HeapL B w b g cap L) : HeapL B w.drew b g cap L := ⟨h.hb, h.hg, h.box, h.row, h.its⟩
theorem HeapL.of {B : Nat} {w : World} {b : Nat} {ys : List It} (h : HeapAt B w b ys) : ∃ g cap L, HeapL B w b g cap L ∧ L.map (·.1) = ys := by
  obtain ⟨g, cap, L, hb, hg, hbox, hL, hR⟩ := h
  have hrow := hR.row
  have e : L.map (·.1) = ys := by
    apply List.ext_getElem
    · simp [hL]
    · intro j h1 h2
      have h3 := (hR.its j h2).1
      have h4 : j < L.length := by omega
      simp [List.getD, h2, h4] at h3
      simp [h3]
  refine ⟨g, cap, L, ⟨hb, hg, by rw [hL]; exact hbox, by rw [hL] at hrow ⊢; exact hrow, fun p hp => ?_⟩, e⟩
  obtain ⟨j, hj, rfl⟩ := List.mem_iff_getElem.1 hp
  obtain ⟨h1, h2⟩ := hR.its j (by omega)
  have e : L.getD j pr0 = L[j] := by simp [List.getD, hj]
  rw [e] at h1 h2
  rw [h1]; exact h2
theorem HeapL.at {B : Nat} {w : World} {b g cap : Nat} {L : List Pr} (h : HeapL B w b g cap L) : HeapAt B w b (L.map (·.1)) := by
  refine ⟨g, cap, L, h.hb, h.hg, by simpa using h.box, by simp, ⟨by simpa using h.row, fun j hj => ?_⟩⟩
  have hj' : j < L.length := by simpa using hj
  have e1 : L.getD j pr0 = L[j] := by simp [List.getD, hj']
  have e2 : (L.map (·.1)).getD j It.none = L[j].1 := by simp [List.getD, hj']
  rw [e1, e2]
  exact ⟨rfl, h.its _ (List.getElem_mem hj')⟩
/-- The cells of one item. -/
theorem HeapL.at4 {B : Nat} {w : World} {b g cap : Nat} {L : List Pr} (h : HeapL B w b g cap L) {k : Nat} (hk : k < L.length) :
    w.cell? ⟨g, k * 4, none⟩ = some (.int .i64 (L.getD k pr0).1.c) ∧ w.cell? ⟨g, k * 4 + 1, none⟩ = some (L.getD k pr0).2 ∧ w.cell? ⟨g, k * 4 + 2, none⟩ = some (.int .i64 (L.getD k pr0).1.p) ∧ w.cell? ⟨g, k * 4 + 3, none⟩ = some (.int .i64 (L.getD k pr0).1.r) :=
  ⟨own_cell h.row (encs_get L k 0 hk (by decide)), own_cell h.row (encs_get L k 1 hk (by decide)), own_cell h.row (encs_get L k 2 hk (by decide)), own_cell h.row (encs_get L k 3 hk (by decide))⟩
theorem getD_mem {L : List Pr} {k : Nat} (hk : k < L.length) : L.getD k pr0 ∈ L := by
  have e1 : L.getD k pr0 = L[k] := by simp [List.getD, hk]
  rw [e1]; exact List.getElem_mem hk
theorem own_slice {w : World} {B t n : Nat} {v : Value} {xs : List Value} (h : w.ownsRow B t 1 v n xs) : ∃ a m c, v = .slice a m c := by
  rcases h.2 with ⟨rfl, _⟩ | ⟨g, cap, cur, rfl, _⟩
  · exact ⟨_, _, _, rfl⟩
  · exact ⟨_, _, _, rfl⟩
/-- An item put in the place of another. -/
theorem HeapL.put {B : Nat} {w : World} {b g cap : Nat} {L : List Pr} (h : HeapL B w b g cap L) {k : Nat} (hk : k < L.length) {p : Pr} (hr : w.ownsRow B 3 1 p.2 p.1.l.length (ints p.1.l)) : HeapL B (put4 w g k p) b g cap (L.set k p) := by
  have h0 := h.row
  have s0 := (h0.stored (k * 4) (.int .i64 p.1.c)).1
  have s1 := (s0.stored (k * 4 + 1) p.2).1
  have s2 := (s1.stored (k * 4 + 2) (.int .i64 p.1.p)).1
  have s3 := (s2.stored (k * 4 + 3) (.int .i64 p.1.r)).1
  have he := encs_set L k p hk
  have keep : ∀ {v : Value} {m : Nat} {xs : List Value}, w.ownsRow B 3 1 v m xs → (put4 w g k p).ownsRow B 3 1 v m xs := fun {v m xs} h => by
    have hb : ∀ {z : World} {xs : List Value}, z.ownsRow B 24 4 (.slice (some ⟨g, 0, none⟩) L.length cap) L.length xs → ∃ cs, z.heap[g]? = some (.cells cs 24) := fun {z xs} hz => by
      rcases hz.2 with ⟨e, _⟩ | ⟨g', cap, cur, e, _, hc, _⟩
      · cases e
      · simp only [Value.slice.injEq, Option.some.injEq, Addr.mk.injEq, and_true] at e
        obtain ⟨rfl, _⟩ := e
        exact ⟨cur, hc⟩
    obtain ⟨c0, b0⟩ := hb h0
    obtain ⟨c1, b1⟩ := hb s0
    obtain ⟨c2, b2⟩ := hb s1
    obtain ⟨c3, b3⟩ := hb s2
    exact owns_setO (owns_setO (owns_setO (owns_setO h b0 (by decide) _ _) b1 (by decide) _ _) b2 (by decide) _ _) b3 (by decide) _ _
  refine ⟨h.hb, h.hg, ?_, ?_, fun q hq => ?_⟩
  · rw [put4_other h.ne, List.length_set]; exact h.box
  · rw [← he, List.length_set]; exact s3
  · rcases List.mem_or_eq_of_mem_set hq with hq | rfl
    · exact keep (h.its q hq)
    · exact keep hr
/-- Two items change places. -/
def swapL (L : List Pr) (i j : Nat) : List Pr := (L.set i (L.getD j pr0)).set j (L.getD i pr0)
theorem swapL_len (L : List Pr) (i j : Nat) : (swapL L i j).length = L.length := by simp [swapL]
theorem swapL_perm {L : List Pr} {i j : Nat} (hi : i < L.length) (hj : j < L.length) : (swapL L i j).Perm L := by
  have e1 : L.getD i pr0 = L[i] := by simp [List.getD, hi]
  have e2 : L.getD j pr0 = L[j] := by simp [List.getD, hj]
  unfold swapL
  rw [e1, e2]
  exact List.set_set_perm hi hj
/-- The item at a place. -/
def itF (L : List Pr) (k : Nat) : It := (L.getD k pr0).1
theorem swapL_at {L : List Pr} {i j : Nat} (hi : i < L.length) (hj : j < L.length) : itF (swapL L i j) = swapF (itF L) i j := by
  funext k
  unfold itF swapF swapL
  by_cases h1 : k = j
  · subst h1; simp [List.getD, hj]
  · by_cases h2 : k = i
    · subst h2; simp [List.getD, hi, Ne.symm h1, h1]
    · simp [List.getD, Ne.symm h1, h1, Ne.symm h2, h2]
theorem HeapL.swap {B : Nat} {w : World} {b g cap : Nat} {L : List Pr} (h : HeapL B w b g cap L) {i j : Nat} (hi : i < L.length) (hj : j < L.length) :
    HeapL B (put4 (put4 w g i (L.getD j pr0)) g j (L.getD i pr0)).drew b g cap (swapL L i j) := by
  have h1 := h.put hi (h.its _ (getD_mem hj))
  have h2 : (put4 w g i (L.getD j pr0)).ownsRow B 3 1 (L.getD i pr0).2 (L.getD i pr0).1.l.length (ints (L.getD i pr0).1.l) := by
    have h3 := h.put (p := L.getD j pr0) hi (h.its _ (getD_mem hj))
    by_cases hij : L.getD i pr0 ∈ L.set i (L.getD j pr0)
    · exact h3.its _ hij
    · obtain ⟨cur, hc⟩ := h.block
      have keep : ∀ {z : World} {v : Value} {m : Nat} {xs : List Value} (j : Nat) (u : Value), (∃ cur, z.heap[g]? = some (.cells cur 24)) → z.ownsRow B 3 1 v m xs → (z.setCell ⟨g, j, none⟩ u).ownsRow B 3 1 v m xs ∧ ∃ cur, (z.setCell ⟨g, j, none⟩ u).heap[g]? = some (.cells cur 24) := fun {z v m xs} j u ⟨cur, hc⟩ h => ⟨owns_setO h hc (by decide) _ _, ⟨_, heap_setI hc j u⟩⟩
      obtain ⟨k0, c0⟩ := keep (i * 4) (.int .i64 (L.getD j pr0).1.c) ⟨cur, hc⟩ (h.its _ (getD_mem hi))
      obtain ⟨k1, c1⟩ := keep (i * 4 + 1) (L.getD j pr0).2 c0 k0
      obtain ⟨k2, c2⟩ := keep (i * 4 + 2) (.int .i64 (L.getD j pr0).1.p) c1 k1
      exact (keep (i * 4 + 3) (.int .i64 (L.getD j pr0).1.r) c2 k2).1
  exact (h1.put (by rw [List.length_set]; exact hj) h2).drew
/-- What heap.swap does. -/
def Rest (g : Nat) (w w' : World) : Prop := ∀ k : Nat, k ≠ g → w'.heap[k]? = w.heap[k]?
theorem rest_drew {w x : World} {g : Nat} (h : Rest g w x) : Rest g w x.drew := fun k hk => h k hk
theorem rest_put4 {w x : World} {g i : Nat} {q : Pr} (h : Rest g w x) : Rest g w (put4 x g i q) := fun k hk => (put4_other (Ne.symm hk)).trans (h k hk)
theorem rest_put {w : World} {g i j : Nat} {p q : Pr} : Rest g w (put4 (put4 w g i q) g j p).drew := rest_drew (rest_put4 (rest_put4 fun _ _ => rfl))
theorem below_put {w : World} {B g i j : Nat} {p q : Pr} (hg : B ≤ g) : Below B w (put4 (put4 w g i q) g j p).drew :=
  (below_put4 (below_put4 (Below.refl _ _) hg _ _) hg _ _).drew
theorem hswap_c {B : Nat} {w : World} {b g cap : Nat} {L : List Pr} (h : HeapL B w b g cap L) {i j : Nat} (hi : i < L.length) (hj : j < L.length) :
    Calls Try.prog 25 #[.pointer (some ⟨b, 0, none⟩), .int .i64 i, .int .i64 j] w fun e w' => e = .returned (.tuple #[]) ∧ HeapL B w' b g cap (swapL L i j) ∧ Below B w w' ∧ Rest g w w' := by
  obtain ⟨p0, p1, p2, p3⟩ := h.at4 hi
  obtain ⟨q0, q1, q2, q3⟩ := h.at4 hj
  have hz : ∀ k, w.frozen? ⟨g, k, none⟩ = false := fun k => h.row.frozenAt k
  have o1 := own_slice (h.its _ (getD_mem hi))
  have o2 := own_slice (h.its _ (getD_mem hj))
  have hc := h.cell
  have hfin := h.swap hi hj
  have hg := h.hg
  generalize L.getD i pr0 = p at *
  generalize L.getD j pr0 = q at *
  have hs := swap_c b g L.length cap i j p q w hc hi hj hz o1 o2 p0 p1 p2 p3 q0 q1 q2 q3
  refine hs.mono ?_
  rintro e w' ⟨rfl, rfl⟩
  exact ⟨rfl, hfin, below_put hg, rest_put⟩
end Go.Proofs.Ytapdkdfgjjdbkaa
/-
  A HEAP WITH ONE ITEM MORE: what holds of it.
-/
namespace Go.Proofs.Ytapdkdfgjjdbkaa
open Go.ChangeShapes Go.WideShapes Go.ChangeAt Go.RowKit

theorem own_other {w w' : World} {B t s n : Nat} {v : Value} {xs : List Value} {o : Option Nat} (h : w.ownsRow B t s v n xs) (hg : w.grownBy w' o) (hne : ∀ g, v.ownBlock = some g → o ≠ some g) : w'.ownsRow B t s v n xs := by
  obtain ⟨hl, h⟩ := h
  refine ⟨hl, ?_⟩
  rcases h with h | ⟨g, cap, cur, e1, e2, e3, e4⟩
  · exact .inl h
  · exact .inr ⟨g, cap, cur, e1, e2, (hg.block g (Array.getElem?_eq_some_iff.1 e3).1 (Ne.symm (hne g (by rw [e1]; rfl)))).trans e3, e4⟩
theorem step_wp {P : Program} {ops : Array Oper} {o : Oper} {a : Act} {w : World} {K : Act → World → Prop} {Q : Exit → Act → World → Prop} {E : Prop} (hg : o.guard = none) (h : o.wp P a w K Q) : if Region.wanted o (yielded ops a.tmps) = true then Oper.wp P o a w K Q else E := by
  have hw : Region.wanted o (yielded ops a.tmps) = true := by simp [Region.wanted, hg]
  rw [if_pos hw]
  exact h
theorem wp_call {P : Program} {Q : Exit → Act → World → Prop} {o : Oper} {a : Act} {w : World} {K : Act → World → Prop} {f : FuncId} {args : Array Operand} {ats : Array TypeId} {vs : Array Value} (hop : o.op = .call { callee := .value (.func f), args := args, argTypes := ats }) (hE : ∀ args w, (callFunc f args).run P w = .ok (.enter f args) w) (hv : args.map a.eval = vs)
    (h : Calls P f vs w fun e w' => ∃ v, e = .returned v ∧ K (a.put o.dst v) w') : o.wp P a w K Q := by
  have e : execOp a.eval o = callFunc f (#[] ++ args.map a.eval ++ #[]) := by
    cases o
    cases hop
    rfl
  unfold Oper.wp
  rw [e, hE, hv]
  simp only [Array.empty_append, Array.append_empty]
  exact h.mono fun e w' ⟨v, he, hk⟩ => by subst he; exact hk
theorem step_append_own_at {P : Program} {ops : Array Oper} {o : Oper} {a : Act} {w : World} {K : Act → World → Prop} {Q : Exit → Act → World → Prop} {E : Prop}
    (hg : o.guard = none) (s x : Operand) (t : TypeId) (hop : o.op = Op.call { callee := Callee.builtin Builtin.append, args := #[s, x], argTypes := #[t, t] })
    (base : Nat) (e : TypeId) (i : TypeInfo) (z : Value) (size bytes : Nat) (h1 : P.underlying t = some (.slice e)) (h2 : P.info? e = some i) (h3 : i.zero = some z) (h4 : i.size = size) (h5 : i.bytes = bytes) (h6 : z.cells.size = size) (h7 : 0 < size)
    (v : Value) (n : Nat) (xs : List Value) (hs : a.eval s = v) (hown : w.ownsRow base e size v n xs)
    (ad : Addr) (m c : Nat) (news : List Value) (hx : a.eval x = .slice (some ad) m c) (hn : news.length = m * size) (hc : ∀ j u, news[j]? = some u → w.cell? (ad.add j) = some u) (h1c : ∀ u ∈ news, u.oneCell' = true)
    (b1 : n + m ≤ maxLen) (b2 : (n + m) * bytes ≤ 140737488355328) (hbase : base ≤ w.heap.size)
    (hK : ∀ v' w', w'.ownsRow base e size v' (n + m) (xs ++ news) → w.grownBy w' v.ownBlock → (v'.ownBlock = v.ownBlock ∨ v'.ownBlock = some w.heap.size) → K (a.put o.dst v') w') :
    if Region.wanted o (yielded ops a.tmps) = true then Oper.wp P o a w K Q else E := by
  refine step_wp hg ?_
  obtain ⟨v', w', hr, r2, r3, _, r5⟩ := run_append_own_at (P := P) w base t o.type e i z size bytes h1 h2 h3 h4 h5 h6 h7 v n xs hown ad m c news hn hc h1c b1 b2 hbase
  unfold Oper.wp execOp
  simp only [hop, resolve, invoke, builtin, Sem.run_bind, Sem.run_pure, Result.andThen_ok, List.map_toArray, List.map_cons, List.map_nil, hs, hx, hr]
  exact hK _ _ r2 r3 r5
theorem ne_types {w : World} {b c : Nat} {x y : Array Value} {t u : TypeId} (h1 : w.heap[b]? = some (.cells x t)) (h2 : w.heap[c]? = some (.cells y u)) (ht : t ≠ u) : b ≠ c := fun e => by
  subst e
  rw [h1] at h2
  injection h2 with h2
  injection h2 with _ h2 _
  exact ht h2
theorem row_ne {w : World} {B te s n b : Nat} {v : Value} {xs : List Value} {cs : Array Value} {tb : TypeId} (h : w.ownsRow B te s v n xs) (hb : w.heap[b]? = some (.cells cs tb)) (ht : te ≠ tb) : v.ownBlock ≠ some b := fun e => by
  rcases h.2 with ⟨rfl, _⟩ | ⟨g, cap, cur, rfl, _, h3, _⟩
  · cases e
  · simp only [Value.ownBlock, Option.some.injEq] at e
    subst e
    exact ne_types h3 hb ht rfl
theorem box_grown {w w' : World} {B te s n b : Nat} {v : Value} {xs : List Value} {cs : Array Value} {tb : TypeId} (hb : w.heap[b]? = some (.cells cs tb)) (h : w.ownsRow B te s v n xs) (ht : te ≠ tb) (hg : w.grownBy w' v.ownBlock) : w'.heap[b]? = some (.cells cs tb) :=
  (hg.block _ (Array.getElem?_eq_some_iff.1 hb).1 (Ne.symm (row_ne h hb ht))).trans hb
theorem box_below {w w' : World} {b : Nat} {o : Obj} (h : w.heap[b]? = some o) (hB : Below w.heap.size w w') : w'.heap[b]? = some o := (hB.block _ (Array.getElem?_eq_some_iff.1 h).1).trans h
theorem cells_newI (w : World) (xs : List Value) (t : TypeId) : ∀ j x, xs[j]? = some x → (w.alloc (.cells xs.toArray t)).cell? ((⟨w.heap.size, 0, none⟩ : Addr).add j) = some x := fun j x hj => by
  have h := heap_alloc_new w (.cells xs.toArray t)
  have e : Addr.add ⟨w.heap.size, 0, none⟩ j = ⟨w.heap.size, 0 + j, none⟩ := by
    by_cases hj : j = 0
    · subst hj; simp [Addr.add]
    · simp [Addr.add, hj]
  rw [e]
  simp only [World.cell?, h, Nat.zero_add]
  simpa using hj
/-- All blocks but two are as they were. -/
structure Save2 (b g : Nat) (w w' : World) : Prop where
  size : w.heap.size ≤ w'.heap.size
  block : ∀ k : Nat, k < w.heap.size → k ≠ b → k ≠ g → w'.heap[k]? = w.heap[k]?
theorem Save2.refl (b g : Nat) (w : World) : Save2 b g w w := ⟨Nat.le_refl _, fun _ _ _ _ => rfl⟩
theorem Save2.of_below {b g : Nat} {w w' : World} (h : Below w.heap.size w w') : Save2 b g w w' := ⟨h.size, fun k hk _ _ => h.block k hk⟩
theorem Save2.trans {b g g2 : Nat} {w x y : World} (h : Save2 b g w x) (h2 : Save2 b g2 x y) (hg : g2 = g ∨ w.heap.size ≤ g2) : Save2 b g w y :=
  ⟨Nat.le_trans h.size h2.size, fun k hk h1 h3 => (h2.block k (Nat.lt_of_lt_of_le hk h.size) h1 (by rcases hg with e | e <;> omega)).trans (h.block k hk h1 h3)⟩
theorem HeapL.pushed {B : Nat} {zA w6 : World} {b g cap : Nat} {L : List Pr} (h : HeapL B zA b g cap L) {y : It} {nv v' : Value} (hr : zA.ownsRow B 3 1 nv y.l.length (ints y.l))
    (ho : w6.ownsRow B 24 4 v' (L.length + 1) (encs L ++ [.int .i64 y.c, nv, .int .i64 y.p, .int .i64 y.r])) (hg : zA.grownBy w6 (some g)) (hat : v'.ownBlock = some g ∨ v'.ownBlock = some zA.heap.size) :
    ∃ g9 c9, v' = .slice (some ⟨g9, 0, none⟩) (L.length + 1) c9 ∧ HeapL B (w6.setCell ⟨b, 0, none⟩ v') b g9 c9 (L ++ [(y, nv)]) ∧ (g9 = g ∨ g9 = zA.heap.size) ∧ Save2 b g zA (w6.setCell ⟨b, 0, none⟩ v') ∧ Below B zA (w6.setCell ⟨b, 0, none⟩ v') := by
  have hn : (L ++ [(y, nv)]).length = L.length + 1 := by simp
  have he : encs (L ++ [(y, nv)]) = encs L ++ [.int .i64 y.c, nv, .int .i64 y.p, .int .i64 y.r] := by
    rw [encs_app]; rfl
  obtain ⟨g9, c9, rfl⟩ : ∃ g9 c9, v' = .slice (some ⟨g9, 0, none⟩) (L.length + 1) c9 := by
    rcases ho.2 with ⟨_, h0⟩ | ⟨g9, c9, cur, h1, _⟩
    · omega
    · exact ⟨g9, c9, h1⟩
  have hgb := h.ne
  have hlt : b < zA.heap.size := (Array.getElem?_eq_some_iff.1 h.box).1
  have hbox6 : w6.heap[b]? = some (.cells #[.slice (some ⟨g, 0, none⟩) L.length cap] 47) := (hg.block b hlt (by intro e; exact hgb (Option.some.inj e).symm)).trans h.box
  have hg9 : g9 ≠ b := fun e => by
    rcases ho.2 with ⟨e', _⟩ | ⟨g', c', cur, h1, _, h3, _⟩
    · cases e'
    · simp only [Value.slice.injEq, Option.some.injEq, Addr.mk.injEq, and_true] at h1
      obtain ⟨rfl, _⟩ := h1
      rw [e, hbox6] at h3
      injection h3 with h3
      injection h3 with _ h3 _
      exact absurd h3 (by decide)
  refine ⟨g9, c9, rfl, ⟨h.hb, ?_, ?_, ?_, fun p hp => ?_⟩, ?_, ⟨?_, fun k hk k1 k2 => ?_⟩, ?_⟩
  · rcases ho.2 with ⟨e', _⟩ | ⟨g', c', cur, h1, h2, _⟩
    · cases e'
    · simp only [Value.slice.injEq, Option.some.injEq, Addr.mk.injEq, and_true] at h1
      obtain ⟨rfl, _⟩ := h1
      exact h2
  · rw [heap_setI hbox6 0 _, hn]; rfl
  · rw [hn, he]
    exact owns_setO ho hbox6 (by decide) 0 _
  · have hp' : zA.ownsRow B 3 1 p.2 p.1.l.length (ints p.1.l) := by
      rcases List.mem_append.1 hp with hp | hp
      · exact h.its p hp
      · obtain rfl := List.mem_singleton.1 hp
        exact hr
    obtain ⟨cur, hc⟩ := h.block
    refine owns_setO (own_other hp' hg fun k hk e => ?_) hbox6 (by decide) 0 _
    injection e with e
    subst e
    exact row_ne hp' hc (by decide) hk
  · rcases hat with e | e
    · exact .inl (Option.some.inj e)
    · exact .inr (Option.some.inj e)
  · simpa [World.setCell] using hg.size
  · rw [heap_oI (Ne.symm k1)]
    exact hg.block k hk (fun e => k2 (Option.some.inj e))
  · exact ((Below.refl B zA).grown hg (Nat.le_trans h.hb (Nat.le_of_lt hlt)) (fun k hk => by injection hk with hk; subst hk; exact h.hg)).setCell (p := ⟨b, 0, none⟩) h.hb _
theorem HeapL.pushedN {B : Nat} {zA w6 : World} {b g cap n : Nat} {L : List Pr} (h : HeapL B zA b g cap L) (hn : L.length = n) {y : It} {nv v' : Value} (hr : zA.ownsRow B 3 1 nv y.l.length (ints y.l))
    (ho : w6.ownsRow B 24 4 v' (n + 1) (encs L ++ [.int .i64 y.c, nv, .int .i64 y.p, .int .i64 y.r])) (hg : zA.grownBy w6 (some g)) (hat : v'.ownBlock = some g ∨ v'.ownBlock = some zA.heap.size) :
    ∃ g9 c9, v' = .slice (some ⟨g9, 0, none⟩) (n + 1) c9 ∧ HeapL B (w6.setCell ⟨b, 0, none⟩ v') b g9 c9 (L ++ [(y, nv)]) ∧ (g9 = g ∨ g9 = zA.heap.size) ∧ Save2 b g zA (w6.setCell ⟨b, 0, none⟩ v') ∧ Below B zA (w6.setCell ⟨b, 0, none⟩ v') := by
  subst hn
  exact h.pushed hr ho hg hat
theorem box1 {x : World} {b : Nat} {c : Value} {t : TypeId} (h : x.heap[b]? = some (.cells #[c] t)) : x.cell? ⟨b, 0, none⟩ = some c ∧ x.frozen? ⟨b, 0, none⟩ = false := by
  refine ⟨?_, ?_⟩ <;> simp [World.cell?, World.frozen?, h]
theorem HeapL.box6 {B : Nat} {zA w6 : World} {b g cap : Nat} {L : List Pr} (h : HeapL B zA b g cap L) (hg : zA.grownBy w6 (some g)) : w6.heap[b]? = some (.cells #[.slice (some ⟨g, 0, none⟩) L.length cap] 47) :=
  (hg.block b (Array.getElem?_eq_some_iff.1 h.box).1 (by intro e; exact h.ne (Option.some.inj e).symm)).trans h.box
/-- A post that says something of the ordinary end alone. -/
def OnlyN (R : Act → World → Prop) : Exit → Act → World → Prop
  | .normal, a, w => R a w
  | _, _, _ => False
theorem OnlyN.mk {R : Act → World → Prop} {a : Act} {w : World} (h : R a w) : OnlyN R .normal a w := h
theorem wp_only {P : Program} {C : Code} {Q : Exit → Act → World → Prop} {a : Act} {w : World} (R : Act → World → Prop) (h : C.wp P (OnlyN R) a w) (hq : ∀ a' w', R a' w' → Q .normal a' w') : C.wp P Q a w :=
  Code.wp_mono (fun e a w h => by cases e <;> first | exact hq _ _ h | exact h.elim) h
end Go.Proofs.Ytapdkdfgjjdbkaa
