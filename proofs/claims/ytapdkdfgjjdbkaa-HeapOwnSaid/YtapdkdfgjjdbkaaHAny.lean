/-
  WHETHER WHAT IS TOLD IS THE FIRST OF A LIST, by contract; what a heap tells of its first, and of all.
-/
import Derived.Test.YtapdkdfgjjdbkaaHPop0
namespace Go.Proofs.Ytapdkdfgjjdbkaa
open Go.ChangeShapes Go.WideShapes Go.ChangeAt Go.RowKit

set_option maxHeartbeats 1600000 in
set_option maxRecDepth 1000000 in
theorem same1_c (t : It) (nv tv : Value) (g2 og n cap2 : Nat) (w : World) (hnv : Holds w nv (t.l.map (Value.int .i64))) (htv : Holds w tv (t.l.map (Value.int .i64))) (ht : t.l.length ≤ 1000) (hn : 0 < n)
    (c0 : w.cell? ⟨g2, og, none⟩ = some (.int .i64 t.c)) (c1 : w.cell? ⟨g2, og + 1, none⟩ = some tv) (c2 : w.cell? ⟨g2, og + 2, none⟩ = some (.int .i64 t.p)) (c3 : w.cell? ⟨g2, og + 3, none⟩ = some (.int .i64 t.r)) :
    Calls Try.prog 18 #[itV t nv, .bool true, .slice (some ⟨g2, og, none⟩) n cap2] w fun e w' => e = .returned (.bool true) ∧ Below w.heap.size w w' := by
  obtain ⟨y2, hy2⟩ : ∃ y2, Hid (y2 = w.alloc (.cells #[.int .i64 t.c, nv, .int .i64 t.p, .int .i64 t.r] 24)) := ⟨_, hiddenI rfl⟩
  have hB2 : Below w.heap.size w y2 := by rw [hy2.out]; exact (Below.refl _ _).alloc (Nat.le_refl _) _
  have hX2 : y2.heap[w.heap.size]? = some (.cells #[.int .i64 t.c, nv, .int .i64 t.p, .int .i64 t.r] 24) := by rw [hy2.out]; exact heap_alloc_new _ _
  obtain ⟨⟨p0, p1, p2, p3⟩, -⟩ := box4 hX2
  have hb := World.block_lt_of_cell? _ _ c0
  have q0 := (hB2.cell (p := ⟨g2, og, none⟩) hb).trans c0
  have q1 := (hB2.cell (p := ⟨g2, og + 1, none⟩) hb).trans c1
  have q2 := (hB2.cell (p := ⟨g2, og + 2, none⟩) hb).trans c2
  have q3 := (hB2.cell (p := ⟨g2, og + 3, none⟩) hb).trans c3
  have hkk : Keeps y2 (pushed2 w.heap.size g2 og t t nv tv) y2.drew := by
    refine Keeps.drew ⟨Below.refl _ _, fun p hp => ?_⟩
    simp only [pushed2, List.mem_cons, List.not_mem_nil, or_false] at hp
    rcases hp with rfl | rfl | rfl | rfl | rfl | rfl | rfl | rfl <;> assumption
  have hnh := hnv.below hB2
  have hth := htv.below hB2
  have hcall : ∀ z : In (Keeps y2 (pushed2 w.heap.size g2 og t t nv tv)), Calls Try.prog 16 #[itV t nv, itV t tv] z.w fun e w'' => e = .returned (.int .i64 (icmp t t)) ∧ ∃ u : In (Keeps y2 (pushed2 w.heap.size g2 og t t nv tv)), w'' = u.w :=
    fun z => later_of ((rorder_c t t nv tv z.w (hnh.below z.h.1) (hth.below z.h.1) (by omega) (by omega)).mono fun _ _ ⟨he, hb⟩ => ⟨he, z.h.below hb⟩)
  rw [icmp_self] at hcall
  obtain ⟨tc, tl, tp, tr⟩ := t
  simp only [itV] at hcall ⊢
  have hB2h := hiddenI hB2
  have hn' : (0 : Int) < (n : Int) := by omega
  have hn2 : ¬ (n : Int) = 0 := by omega
  clear c0 c1 c2 c3 q0 q1 q2 q3 hB2 hX2 hnv htv hnh hth hb
  have f0 : ∀ z : In (Keeps y2 (pushed2 w.heap.size g2 og ⟨tc, tl, tp, tr⟩ ⟨tc, tl, tp, tr⟩ nv tv)), _ := Keeps.at 0 rfl
  have f1 : ∀ z : In (Keeps y2 (pushed2 w.heap.size g2 og ⟨tc, tl, tp, tr⟩ ⟨tc, tl, tp, tr⟩ nv tv)), _ := Keeps.at 1 rfl
  have f2 : ∀ z : In (Keeps y2 (pushed2 w.heap.size g2 og ⟨tc, tl, tp, tr⟩ ⟨tc, tl, tp, tr⟩ nv tv)), _ := Keeps.at 2 rfl
  have f3 : ∀ z : In (Keeps y2 (pushed2 w.heap.size g2 og ⟨tc, tl, tp, tr⟩ ⟨tc, tl, tp, tr⟩ nv tv)), _ := Keeps.at 3 rfl
  have f4 : ∀ z : In (Keeps y2 (pushed2 w.heap.size g2 og ⟨tc, tl, tp, tr⟩ ⟨tc, tl, tp, tr⟩ nv tv)), _ := Keeps.at 4 rfl
  have f5 : ∀ z : In (Keeps y2 (pushed2 w.heap.size g2 og ⟨tc, tl, tp, tr⟩ ⟨tc, tl, tp, tr⟩ nv tv)), _ := Keeps.at 5 rfl
  have f6 : ∀ z : In (Keeps y2 (pushed2 w.heap.size g2 og ⟨tc, tl, tp, tr⟩ ⟨tc, tl, tp, tr⟩ nv tv)), _ := Keeps.at 6 rfl
  have f7 : ∀ z : In (Keeps y2 (pushed2 w.heap.size g2 og ⟨tc, tl, tp, tr⟩ ⟨tc, tl, tp, tr⟩ nv tv)), _ := Keeps.at 7 rfl
  dsimp only at f0 f1 f2 f3 f4 f5 f6 f7
  generalize pushed2 w.heap.size g2 og ⟨tc, tl, tp, tr⟩ ⟨tc, tl, tp, tr⟩ nv tv = F at *
  go_enter Try.func18, Try.ntmps18
  go_wp2_with fail
  rw [← hy2.out]
  refine wp_region_later (Keeps y2 F) (by kernel_rfl) (by kernel_rfl) hkk (fun hne => ?_)
  repeat (go_big_quiet_step (exact hcall _))
  refine wpQuiet_nil ?_
  intro wL hL
  have hfin := hiddenI (hB2h.out.trans (hL.1.mono hB2h.out.size))
  clear f0 f1 f2 f3 f4 f5 f6 f7 hkk hcall hL hB2h hy2 p0 p1 p2 p3
  go_wp2
  go_ret
  exact ⟨rfl, hfin.out⟩
set_option maxHeartbeats 1600000 in
set_option maxRecDepth 1000000 in
theorem same0_c (a : Option Addr) (cap2 : Nat) (w : World) :
    Calls Try.prog 18 #[.agg #[.int .i64 0, .slice none 0 0, .int .i64 0, .int .i64 0], .bool false, .slice a 0 cap2] w fun e w' => e = .returned (.bool true) ∧ Below w.heap.size w w' := by
  obtain ⟨y2, hy2⟩ : ∃ y2, Hid (y2 = w.alloc (.cells #[.int .i64 0, .slice none 0 0, .int .i64 0, .int .i64 0] 24)) := ⟨_, hiddenI rfl⟩
  have hB2 : Below w.heap.size w y2 := by rw [hy2.out]; exact (Below.refl _ _).alloc (Nat.le_refl _) _
  have hX2 : y2.heap[w.heap.size]? = some (.cells #[.int .i64 0, .slice none 0 0, .int .i64 0, .int .i64 0] 24) := by rw [hy2.out]; exact heap_alloc_new _ _
  obtain ⟨⟨p0, p1, p2, p3⟩, -⟩ := box4 hX2
  have hcall := rorder_c It.none It.none (.slice none 0 0) (.slice none 0 0) y2 ⟨none, 0, rfl, .inl rfl⟩ ⟨none, 0, rfl, .inl rfl⟩ (by simp [It.none]) (by simp [It.none])
  rw [icmp_self] at hcall
  simp only [itV, It.none] at hcall
  have hB2h := hiddenI hB2
  clear hB2 hX2
  go_enter Try.func18, Try.ntmps18
  go_wp2_with fail
  rw [← hy2.out]
  refine hcall.mono ?_
  rintro e y3 ⟨rfl, hB3⟩
  have hfin := hiddenI (hB2h.out.trans (hB3.mono hB2h.out.size))
  clear hcall hB2h hy2 p0 p1 p2 p3 hB3
  go_wp2
  go_ret
  exact ⟨rfl, hfin.out⟩
/-- What is first of a heap. -/
theorem HR.first {B b g cap : Nat} {L : List Pr} {g2 og cap2 : Nat} {es : List Pr} {t : It} {zs : List It} {w y : World} (h : HR B b g cap L g2 og cap2 es (t :: zs) w y) (hs : (t :: zs).Pairwise le) : ∃ rest, L.map (·.1) = t :: rest := by
  have hc := h.count
  simp only [List.length_cons] at hc
  have hm : (L.getD 0 pr0).1 ∈ t :: zs := h.hp.mem_iff.1 (List.mem_map_of_mem (getD_mem (by omega)))
  have h1 : le t (L.getD 0 pr0).1 := by
    rcases List.mem_cons.1 hm with e | hm
    · rw [e]; exact le_refl _
    · exact (List.pairwise_cons.1 hs).1 _ hm
  have ht : t ∈ L.map (·.1) := h.hp.mem_iff.2 List.mem_cons_self
  obtain ⟨p, hpL, rfl⟩ := List.mem_map.1 ht
  obtain ⟨j, hj, rfl⟩ := List.mem_iff_getElem.1 hpL
  have h2 := h.up.least j hj
  have e : itF L j = L[j].1 := by simp [itF, List.getD, hj]
  rw [e] at h2
  have h3 := le_anti h2 h1
  cases L with
  | nil => simp at hc
  | cons q L => exact ⟨L.map (·.1), by rw [← h3]; rfl⟩
theorem HR.peeking {B b g cap : Nat} {L : List Pr} {g2 og cap2 : Nat} {es : List Pr} {t : It} {zs : List It} {w y : World} (h : HR B b g cap L g2 og cap2 es (t :: zs) w y) (hs : (t :: zs).Pairwise le) :
    Calls Try.prog 9 #[.pointer (some ⟨b, 0, none⟩)] y fun e z => (∃ nv, e = .returned (.tuple #[itV t nv, .bool true]) ∧ z.ownsRow 0 3 1 nv t.l.length (ints t.l)) ∧ Below y.heap.size y z := by
  obtain ⟨rest, hr⟩ := h.first hs
  have hA := h.heap.at
  rw [hr] at hA
  refine (peek_c B b t rest y hA (h.len _ List.mem_cons_self)).mono ?_
  rintro e z ⟨nv, rfl, hown, hB⟩
  exact ⟨⟨nv, rfl, owns_base hown (Nat.zero_le _)⟩, hB⟩
theorem HR.lening {B b g cap : Nat} {L : List Pr} {g2 og cap2 : Nat} {es : List Pr} {zs : List It} {w y : World} (h : HR B b g cap L g2 og cap2 es zs w y) :
    Calls Try.prog 17 #[.pointer (some ⟨b, 0, none⟩)] y fun e z => e = .returned (.int .i64 (zs.length : Nat)) ∧ z = y := by
  have h1 := heaplen_c B b _ y h.heap.at
  rw [List.length_map, h.count] at h1
  exact h1
theorem HR.listing {B b g cap : Nat} {L : List Pr} {g2 og cap2 : Nat} {es : List Pr} {zs : List It} {w y : World} (h : HR B b g cap L g2 og cap2 es zs w y) (hs : zs.Pairwise le) (hn : zs.length ≤ 1000) :
    Calls Try.prog 10 #[.pointer (some ⟨b, 0, none⟩)] y fun e z => (∃ v, e = .returned v ∧ HoldsIL z v zs) ∧ Below y.heap.size y z := by
  refine (heaplist_c B b _ y h.heap.at (by rw [List.length_map, h.count]; exact hn) (fun z hz => h.len _ (h.hp.mem_iff.1 hz))).mono ?_
  rintro e z ⟨L', zs', rfl, hL, hR, hp, hris, hB⟩
  have e := sorted_eq (hp.trans h.hp) (pairwise_of_rising hris) hs
  subst e
  have hm := hrow_map hR hL
  refine ⟨⟨_, rfl, ?_⟩, hB⟩
  obtain ⟨a, cap', hv, hc, hrw⟩ := hrow_rowP hR hL
  refine ⟨a, cap', by rw [hv, hL], ?_⟩
  rcases hc with h0 | ⟨bb, oo, ha, hb, hc⟩
  · left; rw [← hm, h0]; rfl
  · refine .inr ⟨bb, oo, ha, hb, fun j hj => ?_⟩
    have hj' : j < L'.length := by omega
    have hg : L'[j]? = some (L'.getD j pr0) := by simp [List.getD, hj']
    obtain ⟨c0, c1, c2, c3⟩ := hc j _ hg
    have e : zs'.getD j It.none = (L'.getD j pr0).1 := by rw [← hm]; simp [List.getD, hj']
    rw [e]
    exact ⟨_, c0, c1, c2, c3, (hrw _ (getD_mem hj')).holds⟩
/-- The list as the reference holds it. -/
theorem HR.holds {B b g cap : Nat} {L : List Pr} {g2 og cap2 : Nat} {es : List Pr} {zs : List It} {w y : World} (h : HR B b g cap L g2 og cap2 es zs w y) : HoldsIL y (.slice (some ⟨g2, og, none⟩) es.length cap2) (es.map (·.1)) := by
  refine ⟨_, cap2, by rw [List.length_map], .inr ⟨g2, og, rfl, h.ref.lt, fun j hj => ?_⟩⟩
  have hj' : j < es.length := by simpa using hj
  obtain ⟨c0, c1, c2, c3⟩ := h.ref.at4 hj'
  have e : (es.map (·.1)).getD j It.none = (es.getD j pr0).1 := by simp [List.getD, hj']
  rw [e]
  exact ⟨_, c0, c1, c2, c3, holds_of_owns (h.rows _ (getD_mem hj')).1⟩
/-- The list without its first. -/
theorem HR.tail {B b g cap : Nat} {L : List Pr} {g2 og cap2 : Nat} {p : Pr} {es : List Pr} {zs : List It} {w y : World} (h : HR B b g cap L g2 og cap2 (p :: es) zs w y) (og' : Nat) (ho : (cap2 = 1 ∧ og' = og) ∨ og' = og + 4) : HR B b g cap L g2 og' (cap2 - 1) es zs w y := by
  have hroom := h.ref.room
  simp only [List.length_cons] at hroom
  refine ⟨h.heap, h.up, h.hp, ⟨by omega, h.ref.blk, fun j u hj => ?_⟩, (List.pairwise_cons.1 (by simpa using h.sort)).2, h.ne, fun q hq => h.rows q (List.mem_cons_of_mem _ hq), h.len, h.below, h.base⟩
  have hjl := (List.getElem?_eq_some_iff.1 hj).1
  rw [encs_len] at hjl
  have he : (encs (p :: es))[j + 4]? = some u := by
    rw [encs_cons, List.getElem?_append_right (by show 4 ≤ _; omega)]
    exact hj
  have := h.ref.cells _ _ he
  rcases ho with ⟨h1, h2⟩ | h2
  · omega
  · subst h2
    rw [show og + 4 + j = og + (j + 4) by omega]
    exact this
end Go.Proofs.Ytapdkdfgjjdbkaa
/-
  WHAT A HEAP TELLS, whether there is something in it or not.
-/
namespace Go.Proofs.Ytapdkdfgjjdbkaa
open Go.ChangeShapes Go.WideShapes Go.ChangeAt Go.RowKit

theorem none_row (w : World) : w.ownsRow 0 3 1 (.slice none 0 0) 0 (ints []) := ⟨rfl, .inl ⟨rfl, rfl⟩⟩
/-- What is told is the first of the list. -/
def SameOk (a : It) (nv : Value) (ok : Bool) (l : Value) (z : World) : Prop := ∀ x, Below z.heap.size z x → Calls Try.prog 18 #[itV a nv, .bool ok, l] x fun e x' => e = .returned (.bool true) ∧ Below x.heap.size x x'
theorem HR.same1 {B b g cap : Nat} {L : List Pr} {g2 og cap2 : Nat} {p : Pr} {es : List Pr} {zs : List It} {w z : World} (h : HR B b g cap L g2 og cap2 (p :: es) zs w z) {nv : Value} (hnv : z.ownsRow 0 3 1 nv p.1.l.length (ints p.1.l)) : SameOk p.1 nv true (.slice (some ⟨g2, og, none⟩) (p :: es).length cap2) z := fun x hB => by
  have h0 := h.ref.at4 (k := 0) (by simp)
  simp only [Nat.zero_mul, Nat.add_zero] at h0
  obtain ⟨c0, c1, c2, c3⟩ := h0
  have hr := h.rows p List.mem_cons_self
  have hlt := h.ref.lt
  exact same1_c p.1 nv p.2 g2 og _ cap2 x ((holds_of_owns hnv).below hB) ((holds_of_owns hr.1).below hB) hr.2 (by simp) ((hB.cell (p := ⟨g2, og, none⟩) hlt).trans c0) ((hB.cell (p := ⟨g2, og + 1, none⟩) hlt).trans c1) ((hB.cell (p := ⟨g2, og + 2, none⟩) hlt).trans c2) ((hB.cell (p := ⟨g2, og + 3, none⟩) hlt).trans c3)
theorem same0 (a : Option Addr) (cap2 : Nat) (z : World) : SameOk It.none (.slice none 0 0) false (.slice a 0 cap2) z := fun x _ => same0_c a cap2 x
theorem HR.peekAny {B b g cap : Nat} {L : List Pr} {g2 og cap2 : Nat} {es : List Pr} {w y : World} (h : HR B b g cap L g2 og cap2 es (es.map (·.1)) w y) :
    Calls Try.prog 9 #[.pointer (some ⟨b, 0, none⟩)] y fun e z => ∃ a va vn vc ok, e = .returned (.tuple #[itV a (.slice va vn vc), .bool ok]) ∧ SameOk a (.slice va vn vc) ok (.slice (some ⟨g2, og, none⟩) es.length cap2) z ∧ Below y.heap.size y z := by
  cases es with
  | nil =>
    have hL : L.length = 0 := h.count
    have hc := h.heap.cell
    rw [hL] at hc
    refine (peek0_c y hc).mono ?_
    rintro e z ⟨rfl, hB⟩
    exact ⟨It.none, none, 0, 0, false, rfl, same0 _ _ _, hB⟩
  | cons p es =>
    refine (HR.peeking (zs := es.map (·.1)) h (by simpa using h.sort)).mono ?_
    rintro e z ⟨⟨nv, rfl, hown⟩, hB⟩
    obtain ⟨va, vn, vc, rfl⟩ := own_slice hown
    exact ⟨p.1, va, vn, vc, true, rfl, (h.step hB).same1 hown, hB⟩
/-- Behind a Pop. -/
def Popped (B b g cap g2 og cap2 : Nat) (es : List Pr) (w z : World) (ok : Bool) : Prop :=
  (ok = false ∧ es = [] ∧ ∃ L', HR B b g cap L' g2 og cap2 [] [] w z) ∨ (ok = true ∧ ∃ p es', es = p :: es' ∧ ∃ L', HR B b g cap L' g2 og cap2 (p :: es') (es'.map (·.1)) w z)
theorem HR.popAny {B b g cap : Nat} {L : List Pr} {g2 og cap2 : Nat} {es : List Pr} {w y : World} (h : HR B b g cap L g2 og cap2 es (es.map (·.1)) w y) (hn : es.length ≤ 1000) :
    Calls Try.prog 15 #[.pointer (some ⟨b, 0, none⟩)] y fun e z => ∃ a va vn vc ok, e = .returned (.tuple #[itV a (.slice va vn vc), .bool ok]) ∧ SameOk a (.slice va vn vc) ok (.slice (some ⟨g2, og, none⟩) es.length cap2) z ∧ Popped B b g cap g2 og cap2 es w z ok ∧ Save2 b g y z := by
  cases es with
  | nil =>
    have hL : L.length = 0 := h.count
    have hc := h.heap.cell
    rw [hL] at hc
    refine (pop0_c y hc).mono ?_
    rintro e z ⟨rfl, hB⟩
    exact ⟨It.none, none, 0, 0, false, rfl, same0 _ _ _, .inl ⟨rfl, rfl, L, h.step hB⟩, Save2.of_below hB⟩
  | cons p es =>
    refine (HR.popping (zs := es.map (·.1)) h (by simpa using h.sort) (by simpa using hn)).mono ?_
    rintro e z ⟨⟨nv, rfl, hown⟩, ⟨L', hH⟩, hS⟩
    obtain ⟨va, vn, vc, rfl⟩ := own_slice hown
    exact ⟨p.1, va, vn, vc, true, rfl, hH.same1 hown, .inr ⟨rfl, p, es, rfl, L', hH⟩, hS⟩
/-- The list and the heap's are the same. -/
theorem HR.sameL {B b g cap : Nat} {L : List Pr} {g2 og cap2 : Nat} {es : List Pr} {zs : List It} {w y : World} (h : HR B b g cap L g2 og cap2 es zs w y) {v : Value} (hv : HoldsIL y v (es.map (·.1))) (hn : es.length ≤ 1000) :
    Calls Try.prog 11 #[v, .slice (some ⟨g2, og, none⟩) es.length cap2] y fun e z => e = .returned (.bool true) ∧ Below y.heap.size y z := by
  have hl : ∀ k, k < (es.map (·.1)).length → ((es.map (·.1)).getD k It.none).l.length ≤ 17592186044416 := fun k hk => by
    have hk' : k < es.length := by simpa using hk
    have e : (es.map (·.1)).getD k It.none = (es.getD k pr0).1 := by simp [List.getD, hk']
    rw [e]
    have := (h.rows _ (getD_mem hk')).2
    omega
  have hs := rsame_c v _ _ _ y hv h.holds (by simp; omega) (by simp; omega) hl hl
  have e : isame (es.map (·.1)) (es.map (·.1)) = true := isame_all rfl fun k _ => icmp_self _
  rw [e] at hs
  exact hs
end Go.Proofs.Ytapdkdfgjjdbkaa
